/- token: what a token is, by one record; escape, unit, open, repeat, sign by it. -/
import Derived.Test.YtlmmiicibjfcdaaKk
namespace Go.Proofs.Ytlmmiicibjfcdaa
open Go.RowKit
/-- A token with its class as a predicate, the place behind it, and the error. -/
structure TokS where
  k : Int
  b : Nat
  P : Nat → Bool
  nt : Bool
  l : Int
  m : Int
  lz : Bool
  at_ : Nat
  en : Nat
  er : Int
def TokS.bad (en : Nat) (er : Int) : TokS := ⟨0, 0, fun _ => false, false, 0, 0, false, 0, en, er⟩
def TokS.sgn (k : Int) (b at_ en : Nat) : TokS := ⟨k, b, fun _ => false, false, 0, 0, false, at_, en, 0⟩
def TokS.cls (P : Nat → Bool) (nt : Bool) (at_ en : Nat) : TokS := ⟨2, 0, P, nt, 0, 0, false, at_, en, 0⟩
def TokS.rep (l m : Int) (lz : Bool) (at_ en : Nat) : TokS := ⟨7, 0, fun _ => false, false, l, m, lz, at_, en, 0⟩
/-- A token in words is the record's. -/
def TokS.is (s : TokS) (k : Int) (b a0 a1 a2 a3 : Nat) (nt : Bool) (l m : Int) (lz : Bool) (at' en : Nat) (er : Int) : Prop :=
  k = s.k ∧ b = s.b ∧ C4 s.P a0 a1 a2 a3 ∧ nt = s.nt ∧ l = s.l ∧ m = s.m ∧ lz = s.lz ∧ at' = s.at_ ∧ en = s.en ∧ er = s.er
/-- A call's answer is the record's token. -/
def RetT (w : World) (s : TokS) : Ending → World → Prop := RetG w s.is
theorem retT_k {w : World} (s : TokS) {e : Ending} {w' : World} (hP : s.P = fun _ => false) (h : RetK w (tokV s.k s.b 0 0 0 0 s.nt s.l s.m s.lz s.at_) (markV s.en s.er) e w') : RetT w s e w' :=
  ⟨_, _, _, _, _, _, _, _, _, _, _, _, _, h.1, ⟨rfl, rfl, by rw [hP]; exact c4_none, rfl, rfl, rfl, rfl, rfl, rfl, rfl⟩, h.2⟩
theorem retT_c {w : World} {P : Nat → Bool} {nt : Bool} {at_ en : Nat} {e : Ending} {w' : World} (h : RetKC w P nt at_ en e w') : RetT w (.cls P nt at_ en) e w' := by
  obtain ⟨a, b, c, d, he, h4, hb⟩ := h
  exact ⟨_, _, _, _, _, _, _, _, _, _, _, _, _, he, ⟨rfl, rfl, h4, rfl, rfl, rfl, rfl, rfl, rfl, rfl⟩, hb⟩
/-- What escape says. -/
def escS (z : Nat → Nat) (n at_ : Nat) : TokS :=
  if n < at_ + 2 then .bad at_ 40
  else if z (at_ + 1) = 100 ∨ z (at_ + 1) = 119 ∨ z (at_ + 1) = 115 ∨ z (at_ + 1) = 68 ∨ z (at_ + 1) = 87 ∨ z (at_ + 1) = 83 then .cls (namP (z (at_ + 1))) false at_ (at_ + 2)
  else if z (at_ + 1) = 110 then .sgn 1 10 at_ (at_ + 2)
  else if z (at_ + 1) = 114 then .sgn 1 13 at_ (at_ + 2)
  else if z (at_ + 1) = 116 then .sgn 1 9 at_ (at_ + 2)
  else if z (at_ + 1) = 120 then (if (hexV z n (at_ + 2)).2 = true then .sgn 1 (hexV z n (at_ + 2)).1 at_ (at_ + 4) else .bad at_ 40)
  else if letP (z (at_ + 1)) = true then .bad at_ 40
  else if digP (z (at_ + 1)) = true then .bad at_ 40
  else .sgn 1 (z (at_ + 1)) at_ (at_ + 2)
theorem esc_any (ao : Option Addr) (n cap at_ : Nat) (z : Nat → Nat) (w : World) (hr : Rd w ao n z) (hn : (n : Int) ≤ 1024) (ha : at_ < n) : Calls Try.prog 84 #[.slice ao n cap, .int .i64 (at_ : Nat)] w (RetT w (escS z n at_)) := by
  unfold escS
  split
  · rename_i h; exact (esc_short ao n cap at_ z w hr hn ha h).mono fun _ _ h => retT_k (.bad at_ 40) rfl h
  rename_i h
  have h2 : at_ + 2 ≤ n := by omega
  split
  · rename_i hq; exact (esc_class ao n cap at_ z w hr hn h2 _ rfl hq).mono fun _ _ h => retT_c h
  rename_i hne
  split
  · rename_i hq; exact (esc_110 ao n cap at_ z w hr hn h2 hq).mono fun _ _ h => retT_k (.sgn 1 10 at_ (at_ + 2)) rfl h
  split
  · rename_i hq; exact (esc_114 ao n cap at_ z w hr hn h2 hq).mono fun _ _ h => retT_k (.sgn 1 13 at_ (at_ + 2)) rfl h
  split
  · rename_i hq; exact (esc_116 ao n cap at_ z w hr hn h2 hq).mono fun _ _ h => retT_k (.sgn 1 9 at_ (at_ + 2)) rfl h
  split
  · rename_i hq
    split
    · rename_i hx; exact (esc_hex ao n cap at_ z w hr hn h2 hq (hexV z n (at_ + 2)).1 (Prod.ext rfl hx)).mono fun _ _ h => retT_k (.sgn 1 (hexV z n (at_ + 2)).1 at_ (at_ + 4)) rfl h
    · rename_i hx; exact (esc_nohex ao n cap at_ z w hr hn h2 hq (hexV z n (at_ + 2)).1 (Prod.ext rfl (by simpa using hx))).mono fun _ _ h => retT_k (.bad at_ 40) rfl h
  rename_i h110 h114 h116 h120
  have hne' : z (at_ + 1) ≠ 100 ∧ z (at_ + 1) ≠ 119 ∧ z (at_ + 1) ≠ 115 ∧ z (at_ + 1) ≠ 68 ∧ z (at_ + 1) ≠ 87 ∧ z (at_ + 1) ≠ 83 ∧ z (at_ + 1) ≠ 110 ∧ z (at_ + 1) ≠ 114 ∧ z (at_ + 1) ≠ 116 ∧ z (at_ + 1) ≠ 120 := by omega
  split
  · rename_i hl; exact (esc_letter ao n cap at_ z w hr hn h2 _ rfl hne' hl).mono fun _ _ h => retT_k (.bad at_ 40) rfl h
  rename_i hl
  split
  · rename_i hd; exact (esc_digit ao n cap at_ z w hr hn h2 _ rfl hne' (by simpa using hl) hd).mono fun _ _ h => retT_k (.bad at_ 40) rfl h
  · rename_i hd; exact (esc_plain ao n cap at_ z w hr hn h2 _ rfl hne' (by simpa using hl) (by simpa using hd)).mono fun _ _ h => retT_k (.sgn 1 (z (at_ + 1)) at_ (at_ + 2)) rfl h
/-- What unit says. -/
def uniS (z : Nat → Nat) (n at_ : Nat) : TokS := if z at_ = 92 then escS z n at_ else .sgn 1 (z at_) at_ (at_ + 1)
theorem unit_any (ao : Option Addr) (n cap at_ : Nat) (z : Nat → Nat) (w : World) (hr : Rd w ao n z) (hn : (n : Int) ≤ 1024) (ha : at_ < n) : Calls Try.prog 118 #[.slice ao n cap, .int .i64 (at_ : Nat)] w (RetT w (uniS z n at_)) := by
  unfold uniS
  split
  · rename_i hq; exact unit_esc ao n cap at_ z w hr ha hq _ fun W hb => esc_any ao n cap at_ z W (hr.below hb) hn ha
  · rename_i hq; exact (unit_byte ao n cap at_ z w hr hn ha _ rfl hq).mono fun _ _ h => retT_k (.sgn 1 (z at_) at_ (at_ + 1)) rfl h
/-- What open says. -/
def opnS (z : Nat → Nat) (n at_ : Nat) : TokS := if hasP z n (at_ + 1) 63 = false then .sgn 4 0 at_ (at_ + 1) else if hasP z n (at_ + 2) 58 = true then .sgn 4 0 at_ (at_ + 3) else .bad at_ 44
theorem open_any (ao : Option Addr) (n cap at_ : Nat) (z : Nat → Nat) (w : World) (hr : Rd w ao n z) (hn : (n : Int) ≤ 1024) (ha : at_ < n) : Calls Try.prog 86 #[.slice ao n cap, .int .i64 (at_ : Nat)] w (RetT w (opnS z n at_)) := by
  unfold opnS
  split
  · rename_i h1; exact (open_plain ao n cap at_ z w hr hn ha h1).mono fun _ _ h => retT_k (.sgn 4 0 at_ (at_ + 1)) rfl h
  rename_i h1
  split
  · rename_i h2; exact (open_group ao n cap at_ z w hr hn ha (by simpa using h1) h2).mono fun _ _ h => retT_k (.sgn 4 0 at_ (at_ + 3)) rfl h
  · rename_i h2; exact (open_wrong ao n cap at_ z w hr hn ha (by simpa using h1) (by simpa using h2)).mono fun _ _ h => retT_k (.bad at_ 44) rfl h
/-- What repeat says. -/
def rptS (z : Nat → Nat) (n at_ : Nat) : TokS :=
  if (repS z n at_).2.2.2 ≠ 0 then .bad (repS z n at_).2.2.1 (repS z n at_).2.2.2
  else if hasP z n (repS z n at_).2.2.1 63 = true then .rep (repS z n at_).1 (repS z n at_).2.1 true at_ ((repS z n at_).2.2.1 + 1)
  else .rep (repS z n at_).1 (repS z n at_).2.1 false at_ (repS z n at_).2.2.1
theorem repeat_any (ao : Option Addr) (n cap at_ : Nat) (z : Nat → Nat) (w : World) (hr : Rd w ao n z) (hn : (n : Int) ≤ 1024) (ha : at_ < n) (hq : z at_ = 42 ∨ z at_ = 43 ∨ z at_ = 63 ∨ z at_ = 123) : Calls Try.prog 87 #[.slice ao n cap, .int .i64 (at_ : Nat)] w (RetT w (rptS z n at_)) := by
  have h := rep_any ao n cap at_ z w hr hn ha hq
  unfold rptS
  unfold RetRp at h
  split
  · rename_i h1; rw [if_pos h1] at h; exact h.mono fun _ _ h => retT_k (.bad (repS z n at_).2.2.1 (repS z n at_).2.2.2) rfl h
  rename_i h1
  rw [if_neg h1] at h
  split
  · rename_i h2; rw [if_pos h2] at h; exact h.mono fun _ _ h => retT_k (.rep (repS z n at_).1 (repS z n at_).2.1 true at_ ((repS z n at_).2.2.1 + 1)) rfl h
  · rename_i h2; rw [if_neg h2] at h; exact h.mono fun _ _ h => retT_k (.rep (repS z n at_).1 (repS z n at_).2.1 false at_ (repS z n at_).2.2.1) rfl h
/-- What sign says. -/
def sgnS (z : Nat → Nat) (at_ : Nat) : TokS := .sgn (signK (z at_) : Nat) (if signK (z at_) = 1 then z at_ else 0) at_ (at_ + 1)
theorem sign_t (ao : Option Addr) (n cap at_ : Nat) (z : Nat → Nat) (w : World) (hr : Rd w ao n z) (hn : (n : Int) ≤ 1024) (ha : at_ < n) : Calls Try.prog 88 #[.slice ao n cap, .int .i64 (at_ : Nat)] w (RetT w (sgnS z at_)) :=
  (sign_any ao n cap at_ z w hr hn ha).mono fun _ _ h => retT_k (sgnS z at_) rfl h
/-- What word says, given what bracket says. -/
def wrdS (br : TokS) (z : Nat → Nat) (n at_ : Nat) : TokS :=
  if z at_ = 92 then escS z n at_
  else if z at_ = 91 then br
  else if z at_ = 40 then opnS z n at_
  else if z at_ = 42 ∨ z at_ = 43 ∨ z at_ = 63 ∨ z at_ = 123 then rptS z n at_
  else sgnS z at_
theorem word_t (ao : Option Addr) (n cap at_ : Nat) (z : Nat → Nat) (w : World) (hr : Rd w ao n z) (hn : (n : Int) ≤ 1024) (ha : at_ < n) (br : TokS) (hbr : z at_ = 91 → ∀ W, Below w.heap.size w W → Calls Try.prog 85 #[.slice ao n cap, .int .i64 (at_ : Nat)] W (RetT W br)) : Calls Try.prog 77 #[.slice ao n cap, .int .i64 (at_ : Nat)] w (RetT w (wrdS br z n at_)) := by
  unfold wrdS
  split
  · rename_i hq; exact word_esc ao n cap at_ z w hr ha hq _ fun W hb => esc_any ao n cap at_ z W (hr.below hb) hn ha
  rename_i h92
  split
  · rename_i hq; exact word_bracket ao n cap at_ z w hr ha hq _ (hbr hq)
  rename_i h91
  split
  · rename_i hq; exact word_open ao n cap at_ z w hr ha hq _ fun W hb => open_any ao n cap at_ z W (hr.below hb) hn ha
  rename_i h40
  split
  · rename_i hq
    have hR : ∀ W, Below w.heap.size w W → Calls Try.prog 87 #[.slice ao n cap, .int .i64 (at_ : Nat)] W (RetG W (rptS z n at_).is) := fun W hb => repeat_any ao n cap at_ z W (hr.below hb) hn ha hq
    rcases hq with hq | hq | hq | hq
    · exact word_rep42 ao n cap at_ z w hr ha hq _ hR
    · exact word_rep43 ao n cap at_ z w hr ha hq _ hR
    · exact word_rep63 ao n cap at_ z w hr ha hq _ hR
    · exact word_rep123 ao n cap at_ z w hr ha hq _ hR
  · rename_i hne
    exact word_sign ao n cap at_ z w hr ha _ rfl (by omega) _ fun W hb => sign_t ao n cap at_ z W (hr.below hb) hn ha
end Go.Proofs.Ytlmmiicibjfcdaa
