/- token: what a token is, by one record; escape, unit, open, repeat, sign by it. Tokens as values. The reference of token: Check of a class: the walk. The reference of token: Check of a repeat: the walk. -/
import Derived.Test.YtkbeiadbolihiaaDoorM19Kk
import Derived.Test.YtkbeiadbolihiaaDoorM16Cz
import Derived.Test.YtkbeiadbolihiaaDoorM02Ia
namespace Go.Proofs.YtkbeiadbolihiaaDoor
open Go.RowKit
/-- A token with its class as a predicate, the place behind it, and the error. -/
structure TokS where
  k : Int
  b : Nat
  P : Nat → Bool
  nt : Bool
  l : Int
  m : Int
  lz : Bool
  at_ : Nat
  en : Nat
  er : Int
def TokS.bad (en : Nat) (er : Int) : TokS := ⟨0, 0, fun _ => false, false, 0, 0, false, 0, en, er⟩
def TokS.sgn (k : Int) (b at_ en : Nat) : TokS := ⟨k, b, fun _ => false, false, 0, 0, false, at_, en, 0⟩
def TokS.cls (P : Nat → Bool) (nt : Bool) (at_ en : Nat) : TokS := ⟨2, 0, P, nt, 0, 0, false, at_, en, 0⟩
def TokS.rep (l m : Int) (lz : Bool) (at_ en : Nat) : TokS := ⟨7, 0, fun _ => false, false, l, m, lz, at_, en, 0⟩
/-- A token in words is the record's. -/
def TokS.is (s : TokS) (k : Int) (b a0 a1 a2 a3 : Nat) (nt : Bool) (l m : Int) (lz : Bool) (at' en : Nat) (er : Int) : Prop :=
  k = s.k ∧ b = s.b ∧ C4 s.P a0 a1 a2 a3 ∧ nt = s.nt ∧ l = s.l ∧ m = s.m ∧ lz = s.lz ∧ at' = s.at_ ∧ en = s.en ∧ er = s.er
/-- A call's answer is the record's token. -/
def RetT (w : World) (s : TokS) : Ending → World → Prop := RetG w s.is
theorem retT_k {w : World} (s : TokS) {e : Ending} {w' : World} (hP : s.P = fun _ => false) (h : RetK w (tokV s.k s.b 0 0 0 0 s.nt s.l s.m s.lz s.at_) (markV s.en s.er) e w') : RetT w s e w' :=
  ⟨_, _, _, _, _, _, _, _, _, _, _, _, _, h.1, ⟨rfl, rfl, by rw [hP]; exact c4_none, rfl, rfl, rfl, rfl, rfl, rfl, rfl⟩, h.2⟩
theorem retT_c {w : World} {P : Nat → Bool} {nt : Bool} {at_ en : Nat} {e : Ending} {w' : World} (h : RetKC w P nt at_ en e w') : RetT w (.cls P nt at_ en) e w' := by
  obtain ⟨a, b, c, d, he, h4, hb⟩ := h
  exact ⟨_, _, _, _, _, _, _, _, _, _, _, _, _, he, ⟨rfl, rfl, h4, rfl, rfl, rfl, rfl, rfl, rfl, rfl⟩, hb⟩
/-- What escape says. -/
def escS (z : Nat → Nat) (n at_ : Nat) : TokS :=
  if n < at_ + 2 then .bad at_ 40
  else if z (at_ + 1) = 100 ∨ z (at_ + 1) = 119 ∨ z (at_ + 1) = 115 ∨ z (at_ + 1) = 68 ∨ z (at_ + 1) = 87 ∨ z (at_ + 1) = 83 then .cls (namP (z (at_ + 1))) false at_ (at_ + 2)
  else if z (at_ + 1) = 110 then .sgn 1 10 at_ (at_ + 2)
  else if z (at_ + 1) = 114 then .sgn 1 13 at_ (at_ + 2)
  else if z (at_ + 1) = 116 then .sgn 1 9 at_ (at_ + 2)
  else if z (at_ + 1) = 120 then (if (hexV z n (at_ + 2)).2 = true then .sgn 1 (hexV z n (at_ + 2)).1 at_ (at_ + 4) else .bad at_ 40)
  else if letP (z (at_ + 1)) = true then .bad at_ 40
  else if digP (z (at_ + 1)) = true then .bad at_ 40
  else .sgn 1 (z (at_ + 1)) at_ (at_ + 2)
theorem esc_any (ao : Option Addr) (n cap at_ : Nat) (z : Nat → Nat) (w : World) (hr : Rd w ao n z) (hn : (n : Int) ≤ 1024) (ha : at_ < n) : Calls Tryd.prog 59 #[.slice ao n cap, .int .i64 (at_ : Nat)] w (RetT w (escS z n at_)) := by
  unfold escS
  split
  · rename_i h; exact (esc_short ao n cap at_ z w hr hn ha h).mono fun _ _ h => retT_k (.bad at_ 40) rfl h
  rename_i h
  have h2 : at_ + 2 ≤ n := by omega
  split
  · rename_i hq; exact (esc_class ao n cap at_ z w hr hn h2 _ rfl hq).mono fun _ _ h => retT_c h
  rename_i hne
  split
  · rename_i hq; exact (esc_110 ao n cap at_ z w hr hn h2 hq).mono fun _ _ h => retT_k (.sgn 1 10 at_ (at_ + 2)) rfl h
  split
  · rename_i hq; exact (esc_114 ao n cap at_ z w hr hn h2 hq).mono fun _ _ h => retT_k (.sgn 1 13 at_ (at_ + 2)) rfl h
  split
  · rename_i hq; exact (esc_116 ao n cap at_ z w hr hn h2 hq).mono fun _ _ h => retT_k (.sgn 1 9 at_ (at_ + 2)) rfl h
  split
  · rename_i hq
    split
    · rename_i hx; exact (esc_hex ao n cap at_ z w hr hn h2 hq (hexV z n (at_ + 2)).1 (Prod.ext rfl hx)).mono fun _ _ h => retT_k (.sgn 1 (hexV z n (at_ + 2)).1 at_ (at_ + 4)) rfl h
    · rename_i hx; exact (esc_nohex ao n cap at_ z w hr hn h2 hq (hexV z n (at_ + 2)).1 (Prod.ext rfl (by simpa using hx))).mono fun _ _ h => retT_k (.bad at_ 40) rfl h
  rename_i h110 h114 h116 h120
  have hne' : z (at_ + 1) ≠ 100 ∧ z (at_ + 1) ≠ 119 ∧ z (at_ + 1) ≠ 115 ∧ z (at_ + 1) ≠ 68 ∧ z (at_ + 1) ≠ 87 ∧ z (at_ + 1) ≠ 83 ∧ z (at_ + 1) ≠ 110 ∧ z (at_ + 1) ≠ 114 ∧ z (at_ + 1) ≠ 116 ∧ z (at_ + 1) ≠ 120 := by omega
  split
  · rename_i hl; exact (esc_letter ao n cap at_ z w hr hn h2 _ rfl hne' hl).mono fun _ _ h => retT_k (.bad at_ 40) rfl h
  rename_i hl
  split
  · rename_i hd; exact (esc_digit ao n cap at_ z w hr hn h2 _ rfl hne' (by simpa using hl) hd).mono fun _ _ h => retT_k (.bad at_ 40) rfl h
  · rename_i hd; exact (esc_plain ao n cap at_ z w hr hn h2 _ rfl hne' (by simpa using hl) (by simpa using hd)).mono fun _ _ h => retT_k (.sgn 1 (z (at_ + 1)) at_ (at_ + 2)) rfl h
/-- What unit says. -/
def uniS (z : Nat → Nat) (n at_ : Nat) : TokS := if z at_ = 92 then escS z n at_ else .sgn 1 (z at_) at_ (at_ + 1)
theorem unit_any (ao : Option Addr) (n cap at_ : Nat) (z : Nat → Nat) (w : World) (hr : Rd w ao n z) (hn : (n : Int) ≤ 1024) (ha : at_ < n) : Calls Tryd.prog 83 #[.slice ao n cap, .int .i64 (at_ : Nat)] w (RetT w (uniS z n at_)) := by
  unfold uniS
  split
  · rename_i hq; exact unit_esc ao n cap at_ z w hr ha hq _ fun W hb => esc_any ao n cap at_ z W (hr.below hb) hn ha
  · rename_i hq; exact (unit_byte ao n cap at_ z w hr hn ha _ rfl hq).mono fun _ _ h => retT_k (.sgn 1 (z at_) at_ (at_ + 1)) rfl h
/-- What open says. -/
def opnS (z : Nat → Nat) (n at_ : Nat) : TokS := if hasP z n (at_ + 1) 63 = false then .sgn 4 0 at_ (at_ + 1) else if hasP z n (at_ + 2) 58 = true then .sgn 4 0 at_ (at_ + 3) else .bad at_ 44
theorem open_any (ao : Option Addr) (n cap at_ : Nat) (z : Nat → Nat) (w : World) (hr : Rd w ao n z) (hn : (n : Int) ≤ 1024) (ha : at_ < n) : Calls Tryd.prog 61 #[.slice ao n cap, .int .i64 (at_ : Nat)] w (RetT w (opnS z n at_)) := by
  unfold opnS
  split
  · rename_i h1; exact (open_plain ao n cap at_ z w hr hn ha h1).mono fun _ _ h => retT_k (.sgn 4 0 at_ (at_ + 1)) rfl h
  rename_i h1
  split
  · rename_i h2; exact (open_group ao n cap at_ z w hr hn ha (by simpa using h1) h2).mono fun _ _ h => retT_k (.sgn 4 0 at_ (at_ + 3)) rfl h
  · rename_i h2; exact (open_wrong ao n cap at_ z w hr hn ha (by simpa using h1) (by simpa using h2)).mono fun _ _ h => retT_k (.bad at_ 44) rfl h
/-- What repeat says. -/
def rptS (z : Nat → Nat) (n at_ : Nat) : TokS :=
  if (repS z n at_).2.2.2 ≠ 0 then .bad (repS z n at_).2.2.1 (repS z n at_).2.2.2
  else if hasP z n (repS z n at_).2.2.1 63 = true then .rep (repS z n at_).1 (repS z n at_).2.1 true at_ ((repS z n at_).2.2.1 + 1)
  else .rep (repS z n at_).1 (repS z n at_).2.1 false at_ (repS z n at_).2.2.1
theorem repeat_any (ao : Option Addr) (n cap at_ : Nat) (z : Nat → Nat) (w : World) (hr : Rd w ao n z) (hn : (n : Int) ≤ 1024) (ha : at_ < n) (hq : z at_ = 42 ∨ z at_ = 43 ∨ z at_ = 63 ∨ z at_ = 123) : Calls Tryd.prog 62 #[.slice ao n cap, .int .i64 (at_ : Nat)] w (RetT w (rptS z n at_)) := by
  have h := rep_any ao n cap at_ z w hr hn ha hq
  unfold rptS
  unfold RetRp at h
  split
  · rename_i h1; rw [if_pos h1] at h; exact h.mono fun _ _ h => retT_k (.bad (repS z n at_).2.2.1 (repS z n at_).2.2.2) rfl h
  rename_i h1
  rw [if_neg h1] at h
  split
  · rename_i h2; rw [if_pos h2] at h; exact h.mono fun _ _ h => retT_k (.rep (repS z n at_).1 (repS z n at_).2.1 true at_ ((repS z n at_).2.2.1 + 1)) rfl h
  · rename_i h2; rw [if_neg h2] at h; exact h.mono fun _ _ h => retT_k (.rep (repS z n at_).1 (repS z n at_).2.1 false at_ (repS z n at_).2.2.1) rfl h
/-- What sign says. -/
def sgnS (z : Nat → Nat) (at_ : Nat) : TokS := .sgn (signK (z at_) : Nat) (if signK (z at_) = 1 then z at_ else 0) at_ (at_ + 1)
theorem sign_t (ao : Option Addr) (n cap at_ : Nat) (z : Nat → Nat) (w : World) (hr : Rd w ao n z) (hn : (n : Int) ≤ 1024) (ha : at_ < n) : Calls Tryd.prog 63 #[.slice ao n cap, .int .i64 (at_ : Nat)] w (RetT w (sgnS z at_)) :=
  (sign_any ao n cap at_ z w hr hn ha).mono fun _ _ h => retT_k (sgnS z at_) rfl h
/-- What word says, given what bracket says. -/
def wrdS (br : TokS) (z : Nat → Nat) (n at_ : Nat) : TokS :=
  if z at_ = 92 then escS z n at_
  else if z at_ = 91 then br
  else if z at_ = 40 then opnS z n at_
  else if z at_ = 42 ∨ z at_ = 43 ∨ z at_ = 63 ∨ z at_ = 123 then rptS z n at_
  else sgnS z at_
theorem word_t (ao : Option Addr) (n cap at_ : Nat) (z : Nat → Nat) (w : World) (hr : Rd w ao n z) (hn : (n : Int) ≤ 1024) (ha : at_ < n) (br : TokS) (hbr : z at_ = 91 → ∀ W, Below w.heap.size w W → Calls Tryd.prog 60 #[.slice ao n cap, .int .i64 (at_ : Nat)] W (RetT W br)) : Calls Tryd.prog 47 #[.slice ao n cap, .int .i64 (at_ : Nat)] w (RetT w (wrdS br z n at_)) := by
  unfold wrdS
  split
  · rename_i hq; exact word_esc ao n cap at_ z w hr ha hq _ fun W hb => esc_any ao n cap at_ z W (hr.below hb) hn ha
  rename_i h92
  split
  · rename_i hq; exact word_bracket ao n cap at_ z w hr ha hq _ (hbr hq)
  rename_i h91
  split
  · rename_i hq; exact word_open ao n cap at_ z w hr ha hq _ fun W hb => open_any ao n cap at_ z W (hr.below hb) hn ha
  rename_i h40
  split
  · rename_i hq
    have hR : ∀ W, Below w.heap.size w W → Calls Tryd.prog 62 #[.slice ao n cap, .int .i64 (at_ : Nat)] W (RetG W (rptS z n at_).is) := fun W hb => repeat_any ao n cap at_ z W (hr.below hb) hn ha hq
    rcases hq with hq | hq | hq | hq
    · exact word_rep42 ao n cap at_ z w hr ha hq _ hR
    · exact word_rep43 ao n cap at_ z w hr ha hq _ hR
    · exact word_rep63 ao n cap at_ z w hr ha hq _ hR
    · exact word_rep123 ao n cap at_ z w hr ha hq _ hR
  · rename_i hne
    exact word_sign ao n cap at_ z w hr ha _ rfl (by omega) _ fun W hb => sign_t ao n cap at_ z W (hr.below hb) hn ha
end Go.Proofs.YtkbeiadbolihiaaDoor
namespace Go.Proofs.YtkbeiadbolihiaaDoor
open Go.RowKit
/-- The number whose lowest n bits are f's. -/
def wordN (f : Nat → Bool) (n : Nat) : Nat := if h : n = 0 then 0 else (if f (n - 1) = true then 2 ^ (n - 1) else 0) + wordN f (n - 1)
theorem wordN_zero (f : Nat → Bool) : wordN f 0 = 0 := by rw [wordN, dif_pos rfl]
theorem wordN_succ (f : Nat → Bool) (n : Nat) : wordN f (n + 1) = (if f n = true then 2 ^ n else 0) + wordN f n := by
  rw [wordN, dif_neg (by omega)]
  simp only [Nat.add_sub_cancel]
theorem wordN_is (f : Nat → Bool) (n : Nat) : wordN f n < 2 ^ n ∧ ∀ j, j < n → (wordN f n).testBit j = f j := by
  induction n with
  | zero => exact ⟨by rw [wordN_zero]; decide, fun j h => by omega⟩
  | succ n ih =>
    obtain ⟨ha, hb⟩ := ih
    rw [wordN_succ]
    generalize wordN f n = a at *
    cases hf : f n with
    | false =>
      rw [if_neg (by decide), Nat.zero_add]
      refine ⟨by rw [Nat.pow_succ]; omega, fun j hj => ?_⟩
      by_cases e : j = n
      · subst e; rw [hf]; exact Nat.testBit_lt_two_pow ha
      · exact hb j (by omega)
    | true =>
      rw [if_pos rfl]
      refine ⟨by rw [Nat.pow_succ]; omega, fun j hj => ?_⟩
      by_cases e : j = n
      · subst e
        rw [Nat.testBit_two_pow_add_eq, Nat.testBit_lt_two_pow ha, hf]; rfl
      · rw [Nat.testBit_two_pow_add_gt (by omega)]
        exact hb j (by omega)
/-- The four words of a class. -/
def wds (P : Nat → Bool) (i : Nat) : Nat := wordN (fun j => P (64 * i + j)) 64
theorem wds_is (P : Nat → Bool) : C4 P (wds P 0) (wds P 1) (wds P 2) (wds P 3) := by
  have h := fun i => wordN_is (fun j => P (64 * i + j)) 64
  exact ⟨(h 0).1, (h 1).1, (h 2).1, (h 3).1, fun j hj => by have := (h 0).2 j hj; rw [Nat.mul_zero, Nat.zero_add] at this; exact this, fun j hj => (h 1).2 j hj, fun j hj => (h 2).2 j hj, fun j hj => (h 3).2 j hj⟩
/-- A token's cells, and the token as a value. -/
def tokC (s : TokS) : List Value := [.int .i64 s.k, .int .u8 (s.b : Nat), .int .u64 (wds s.P 0 : Nat), .int .u64 (wds s.P 1 : Nat), .int .u64 (wds s.P 2 : Nat), .int .u64 (wds s.P 3 : Nat), .bool s.nt, .int .i64 s.l, .int .i64 s.m, .bool s.lz, .int .i64 (s.at_ : Nat)]
def tokOf (s : TokS) : Value := tokV s.k s.b (wds s.P 0) (wds s.P 1) (wds s.P 2) (wds s.P 3) s.nt s.l s.m s.lz s.at_
def RetD (w : World) (s : TokS) (e : Ending) (w' : World) : Prop := e = .returned (.tuple #[tokOf s, markV s.en s.er]) ∧ Below w.heap.size w w'
theorem RetT.d {w : World} {s : TokS} {e : Ending} {w' : World} (h : RetT w s e w') : RetD w s e w' := by
  obtain ⟨k, b, a0, a1, a2, a3, nt, l, m, lz, at', en, er, rfl, ⟨rfl, rfl, h4, rfl, rfl, rfl, rfl, rfl, rfl, rfl⟩, hb⟩ := h
  obtain ⟨rfl, rfl, rfl, rfl⟩ := h4.uniq (wds_is s.P)
  exact ⟨rfl, hb⟩
end Go.Proofs.YtkbeiadbolihiaaDoor
namespace Go.Proofs.YtkbeiadbolihiaaDoor
open Go.RowKit
set_option maxRecDepth 20000 in
set_option maxHeartbeats 4000000 in
theorem rck_2 {P : Nat → Bool} (b a0 a1 a2 a3 : Nat) (nt : Bool) (l m : Int) (lz : Bool) (t : Int) (w : World) (h4 : C4 P a0 a1 a2 a3) : Calls Tryd.prog 9 #[tokI 2 b a0 a1 a2 a3 nt l m lz t] w (RetN w (erV (chk 2 b P nt l m lz t))) := by
  have hz : ∀ W, (Go.binOp .neq 24 (.agg #[.int .u64 (a0 : Nat), .int .u64 (a1 : Nat), .int .u64 (a2 : Nat), .int .u64 (a3 : Nat)]) (.agg #[.int .u64 0, .int .u64 0, .int .u64 0, .int .u64 0])).run Tryd.prog W = .ok (.bool (!eqC P fun _ => false)) W := fun W => by
    have := neq4 (a0 : Int) a1 a2 a3 0 0 0 0 W
    rw [show (0 : Int) = ((0 : Nat) : Int) from rfl, eq4_iff h4 c4_none] at this
    exact this
  have HB : Hid (Below w.heap.size w (w.alloc (.cells #[.int .i64 2, .int .u8 (b : Nat), .int .u64 (a0 : Nat), .int .u64 (a1 : Nat), .int .u64 (a2 : Nat), .int .u64 (a3 : Nat), .bool nt, .int .i64 l, .int .i64 m, .bool lz, .int .i64 t] 26))) := (Below.refl _ _).alloc (Nat.le_refl _) _
  by_cases ht : t < 0
  · have ht0 : ¬ 0 ≤ t := by omega
    have HC : Hid (chk 2 b P nt l m lz t = false) := by show chk 2 b P nt l m lz t = false; unfold chk; simp [ht0]
    clear h4
    unfold tokI
    go_enter Tryd.func9, Tryd.ntmps9
    go_wp2
    go_ret
    exact ⟨by rw [HC.out]; rfl, HB.out⟩
  have ht0 : 0 ≤ t := by omega
  by_cases hb : b = 0
  case neg =>
    have hb0 : ((b : Int) != 0) = true := by simp; omega
    have HC : Hid (chk 2 b P nt l m lz t = false) := by show chk 2 b P nt l m lz t = false; unfold chk; simp [ht0, hb]
    clear h4
    unfold tokI
    go_enter Tryd.func9, Tryd.ntmps9
    go_wp2
    go_ret
    exact ⟨by rw [HC.out]; rfl, HB.out⟩
  subst hb
  by_cases hl : l = 0
  case neg =>
    have hl0 : (l != 0) = true := by simp; omega
    have HC : Hid (chk 2 0 P nt l m lz t = false) := by show chk 2 0 P nt l m lz t = false; unfold chk; simp [ht0, hl]
    clear h4
    unfold tokI
    go_enter Tryd.func9, Tryd.ntmps9
    go_wp2
    go_ret
    exact ⟨by rw [HC.out]; rfl, HB.out⟩
  subst hl
  by_cases hm : m = 0
  case neg =>
    have hm0 : (m != 0) = true := by simp; omega
    have HC : Hid (chk 2 0 P nt 0 m lz t = false) := by show chk 2 0 P nt 0 m lz t = false; unfold chk; simp [ht0, hm]
    clear h4
    unfold tokI
    go_enter Tryd.func9, Tryd.ntmps9
    go_wp2
    go_ret
    exact ⟨by rw [HC.out]; rfl, HB.out⟩
  subst hm
  cases lz with
  | true =>
    have HC : Hid (chk 2 0 P nt 0 0 true t = false) := by show chk 2 0 P nt 0 0 true t = false; unfold chk; simp [ht0]
    clear h4
    unfold tokI
    go_enter Tryd.func9, Tryd.ntmps9
    go_wp2
    go_ret
    exact ⟨by rw [HC.out]; rfl, HB.out⟩
  | false =>
  have HB2 : Hid (∀ q, Below w.heap.size w ((w.alloc (.cells #[.int .i64 2, .int .u8 0, .int .u64 (a0 : Nat), .int .u64 (a1 : Nat), .int .u64 (a2 : Nat), .int .u64 (a3 : Nat), .bool nt, .int .i64 0, .int .i64 0, .bool false, .int .i64 t] 26)).drewN q)) := fun q => HB.out.trans ((bel_drewN _ q).mono HB.out.size)
  cases hzz : eqC P fun _ => false with
  | true =>
    rw [hzz] at hz
    have HC : Hid (chk 2 0 P nt 0 0 false t = false) := by show chk 2 0 P nt 0 0 false t = false; unfold chk mayP; simp [ht0, hzz]
    clear h4 hzz
    unfold tokI
    go_enter Tryd.func9, Tryd.ntmps9
    go_wp2_with fail
    go_quiet (fail)
    go_wp2
    go_ret
    exact ⟨by rw [HC.out]; rfl, HB2.out _⟩
  | false =>
  rw [hzz] at hz
  cases nt with
  | false =>
    have HC : Hid (chk 2 0 P false 0 0 false t = true) := by show chk 2 0 P false 0 0 false t = true; unfold chk mayP; simp [ht0, hzz]
    clear h4 hzz
    unfold tokI
    go_enter Tryd.func9, Tryd.ntmps9
    go_wp2_with fail
    go_quiet (fail)
    go_wp2
    go_ret
    exact ⟨by rw [HC.out]; rfl, HB2.out _⟩
  | true =>
  obtain ⟨o0, o1, o2, o3, ho⟩ : ∃ a b c d, C4 (rg 0 256) a b c d := ⟨_, _, _, _, wds_is _⟩
  have hF : Hid (∀ W, Calls Tryd.prog 21 #[] W fun e w' => e = .returned (.agg #[.int .u64 (o0 : Nat), .int .u64 (o1 : Nat), .int .u64 (o2 : Nat), .int .u64 (o3 : Nat)]) ∧ Below W.heap.size W w') := fun W => (rfull_any W).mono fun e w' h => by
    obtain ⟨⟨g0, g1, g2, g3, rfl, h4⟩, hb⟩ := h
    obtain ⟨rfl, rfl, rfl, rfl⟩ := h4.uniq ho
    exact ⟨rfl, hb⟩
  have hne : ∀ W, (Go.binOp .neq 24 (.agg #[.int .u64 (a0 : Nat), .int .u64 (a1 : Nat), .int .u64 (a2 : Nat), .int .u64 (a3 : Nat)]) (.agg #[.int .u64 (o0 : Nat), .int .u64 (o1 : Nat), .int .u64 (o2 : Nat), .int .u64 (o3 : Nat)])).run Tryd.prog W = .ok (.bool (!eqC P fun _ => true)) W := fun W => by
    have h := neq4 (a0 : Int) a1 a2 a3 o0 o1 o2 o3 W
    rw [eq4_iff h4 ho] at h
    have e : eqC P (rg 0 256) = eqC P fun _ => true := by
      have e1 : ∀ x, x < 256 → rg 0 256 x = true := fun x hx => by unfold rg; simp; omega
      cases h : eqC P (fun _ => true)
      · cases h2 : eqC P (rg 0 256)
        · rfl
        · rw [(eqC_iff _ _).2 (fun x hx => ((eqC_iff _ _).1 h2 x hx).trans (e1 x hx))] at h; cases h
      · exact (eqC_iff _ _).2 (fun x hx => ((eqC_iff _ _).1 h x hx).trans (e1 x hx).symm)
    rw [e] at h
    exact h
  have hk := Cl.new w 26 [.int .i64 2, .int .u8 0, .int .u64 (a0 : Nat), .int .u64 (a1 : Nat), .int .u64 (a2 : Nat), .int .u64 (a3 : Nat), .bool true, .int .i64 0, .int .i64 0, .bool false, .int .i64 t]
  obtain ⟨x0, x1, x2, x3, x4, x5, x6, x7, x8, x9, x10⟩ := hk.eleven.1
  have z2 := Near.cell x2 hk.lt
  have z3 := Near.cell x3 hk.lt
  have z4 := Near.cell x4 hk.lt
  have z5 := Near.cell x5 hk.lt
  have z6 := Near.cell x6 hk.lt
  have HK : Hid (∀ u, Cl (near (w.alloc (.cells #[.int .i64 2, .int .u8 0, .int .u64 (a0 : Nat), .int .u64 (a1 : Nat), .int .u64 (a2 : Nat), .int .u64 (a3 : Nat), .bool true, .int .i64 0, .int .i64 0, .bool false, .int .i64 t] 26)) u) w.heap.size 26 [.int .i64 2, .int .u8 0, .int .u64 (a0 : Nat), .int .u64 (a1 : Nat), .int .u64 (a2 : Nat), .int .u64 (a3 : Nat), .bool true, .int .i64 0, .int .i64 0, .bool false, .int .i64 t]) := fun u => hk.below (near_below _ u)
  have HU : Hid (∀ u, Below w.heap.size w (near (w.alloc (.cells #[.int .i64 2, .int .u8 0, .int .u64 (a0 : Nat), .int .u64 (a1 : Nat), .int .u64 (a2 : Nat), .int .u64 (a3 : Nat), .bool true, .int .i64 0, .int .i64 0, .bool false, .int .i64 t] 26)) u)) := fun u => HB.out.trans ((near_below _ u).mono HB.out.size)
  clear x0 x1 x2 x3 x4 x5 x6 x7 x8 x9 x10 hk ho
  unfold tokI
  cases hfl : eqC P fun _ => true with
  | true =>
    rw [hfl] at hne
    have HC : Hid (chk 2 0 P true 0 0 false t = false) := by show chk 2 0 P true 0 0 false t = false; unfold chk mayP; simp [ht0, hzz, hfl]
    clear h4 hzz hfl HB HB2
    go_enter Tryd.func9, Tryd.ntmps9
    go_wp2_with fail
    refine wp_region_quiet_tail 15 (fun w' => ∃ u : World, w' = near (w.alloc (.cells #[.int .i64 2, .int .u8 0, .int .u64 (a0 : Nat), .int .u64 (a1 : Nat), .int .u64 (a2 : Nat), .int .u64 (a3 : Nat), .bool true, .int .i64 0, .int .i64 0, .bool false, .int .i64 t] 26)) u) (by kernel_rfl) (by kernel_rfl) (Near.start _) ?_
    simp only [List.take_succ_cons, List.take_zero, List.drop_succ_cons, List.drop_zero]
    repeat (go_big_quiet_step ((go_at_call 21; exact Near.call (hF.out _))))
    refine wpQuiet_nil ?_
    rintro _ ⟨u, rfl⟩
    obtain ⟨x0, x1, x2, x3, x4, x5, x6, x7, x8, x9, x10⟩ := (HK.out u).eleven.1
    have HU2 := HU.out u
    clear z2 z3 z4 z5 z6 HK HU
    generalize near (w.alloc (.cells #[.int .i64 2, .int .u8 0, .int .u64 (a0 : Nat), .int .u64 (a1 : Nat), .int .u64 (a2 : Nat), .int .u64 (a3 : Nat), .bool true, .int .i64 0, .int .i64 0, .bool false, .int .i64 t] 26)) u = W1 at *
    have HU3 : Hid (Below w.heap.size w W1) := HU2
    clear HU2
    go_wp2
    go_ret
    exact ⟨by rw [HC.out]; rfl, HU3.out⟩
  | false =>
    rw [hfl] at hne
    have HC : Hid (chk 2 0 P true 0 0 false t = true) := by show chk 2 0 P true 0 0 false t = true; unfold chk mayP; simp [ht0, hzz, hfl]
    clear h4 hzz hfl HB HB2
    go_enter Tryd.func9, Tryd.ntmps9
    go_wp2_with fail
    refine wp_region_quiet_tail 15 (fun w' => ∃ u : World, w' = near (w.alloc (.cells #[.int .i64 2, .int .u8 0, .int .u64 (a0 : Nat), .int .u64 (a1 : Nat), .int .u64 (a2 : Nat), .int .u64 (a3 : Nat), .bool true, .int .i64 0, .int .i64 0, .bool false, .int .i64 t] 26)) u) (by kernel_rfl) (by kernel_rfl) (Near.start _) ?_
    simp only [List.take_succ_cons, List.take_zero, List.drop_succ_cons, List.drop_zero]
    repeat (go_big_quiet_step ((go_at_call 21; exact Near.call (hF.out _))))
    refine wpQuiet_nil ?_
    rintro _ ⟨u, rfl⟩
    obtain ⟨x0, x1, x2, x3, x4, x5, x6, x7, x8, x9, x10⟩ := (HK.out u).eleven.1
    have HU2 := HU.out u
    clear z2 z3 z4 z5 z6 HK HU
    generalize near (w.alloc (.cells #[.int .i64 2, .int .u8 0, .int .u64 (a0 : Nat), .int .u64 (a1 : Nat), .int .u64 (a2 : Nat), .int .u64 (a3 : Nat), .bool true, .int .i64 0, .int .i64 0, .bool false, .int .i64 t] 26)) u = W1 at *
    have HU3 : Hid (Below w.heap.size w W1) := HU2
    clear HU2
    go_wp2
    go_ret
    exact ⟨by rw [HC.out]; rfl, HU3.out⟩
end Go.Proofs.YtkbeiadbolihiaaDoor
namespace Go.Proofs.YtkbeiadbolihiaaDoor
open Go.RowKit
set_option maxRecDepth 20000 in
set_option maxHeartbeats 4000000 in
theorem rck_7 {P : Nat → Bool} (b a0 a1 a2 a3 : Nat) (nt : Bool) (l m : Int) (lz : Bool) (t : Int) (w : World) (h4 : C4 P a0 a1 a2 a3) : Calls Tryd.prog 9 #[tokI 7 b a0 a1 a2 a3 nt l m lz t] w (RetN w (erV (chk 7 b P nt l m lz t))) := by
  have hz : ∀ W, (Go.binOp .neq 24 (.agg #[.int .u64 (a0 : Nat), .int .u64 (a1 : Nat), .int .u64 (a2 : Nat), .int .u64 (a3 : Nat)]) (.agg #[.int .u64 0, .int .u64 0, .int .u64 0, .int .u64 0])).run Tryd.prog W = .ok (.bool (!eqC P fun _ => false)) W := fun W => by
    have := neq4 (a0 : Int) a1 a2 a3 0 0 0 0 W
    rw [show (0 : Int) = ((0 : Nat) : Int) from rfl, eq4_iff h4 c4_none] at this
    exact this
  have HB : Hid (Below w.heap.size w (w.alloc (.cells #[.int .i64 7, .int .u8 (b : Nat), .int .u64 (a0 : Nat), .int .u64 (a1 : Nat), .int .u64 (a2 : Nat), .int .u64 (a3 : Nat), .bool nt, .int .i64 l, .int .i64 m, .bool lz, .int .i64 t] 26))) := (Below.refl _ _).alloc (Nat.le_refl _) _
  by_cases ht : t < 0
  · have ht0 : ¬ 0 ≤ t := by omega
    have HC : Hid (chk 7 b P nt l m lz t = false) := by show chk 7 b P nt l m lz t = false; unfold chk; simp [ht0]
    clear h4
    unfold tokI
    go_enter Tryd.func9, Tryd.ntmps9
    go_wp2
    go_ret
    exact ⟨by rw [HC.out]; rfl, HB.out⟩
  have ht0 : 0 ≤ t := by omega
  by_cases hb : b = 0
  case neg =>
    have hb0 : ((b : Int) != 0) = true := by simp; omega
    have HC : Hid (chk 7 b P nt l m lz t = false) := by show chk 7 b P nt l m lz t = false; unfold chk; simp [ht0, hb]
    clear h4
    unfold tokI
    go_enter Tryd.func9, Tryd.ntmps9
    go_wp2
    go_ret
    exact ⟨by rw [HC.out]; rfl, HB.out⟩
  subst hb
  cases hzz : eqC P fun _ => false with
  | false =>
    rw [hzz] at hz
    have HC : Hid (chk 7 0 P nt l m lz t = false) := by show chk 7 0 P nt l m lz t = false; unfold chk; simp [ht0, hzz]
    clear h4 hzz
    unfold tokI
    go_enter Tryd.func9, Tryd.ntmps9
    go_wp2
    go_ret
    exact ⟨by rw [HC.out]; rfl, HB.out⟩
  | true =>
  rw [hzz] at hz
  cases nt with
  | true =>
    have HC : Hid (chk 7 0 P true l m lz t = false) := by show chk 7 0 P true l m lz t = false; unfold chk; simp [ht0, hzz]
    clear h4 hzz
    unfold tokI
    go_enter Tryd.func9, Tryd.ntmps9
    go_wp2
    go_ret
    exact ⟨by rw [HC.out]; rfl, HB.out⟩
  | false =>
  by_cases l0 : 0 ≤ l
  case neg =>
    have g0 : ¬ l ≥ 0 := by omega
    have HC : Hid (chk 7 0 P false l m lz t = false) := by show chk 7 0 P false l m lz t = false; unfold chk repP; simp [ht0, hzz]; omega
    clear h4 hzz
    unfold tokI
    go_enter Tryd.func9, Tryd.ntmps9
    go_wp2
    go_ret
    exact ⟨by rw [HC.out]; rfl, HB.out⟩
  have g0 : l ≥ 0 := l0
  by_cases l1 : l ≤ 1000
  case neg =>
    have HC : Hid (chk 7 0 P false l m lz t = false) := by show chk 7 0 P false l m lz t = false; unfold chk repP; simp [ht0, hzz]; omega
    clear h4 hzz
    unfold tokI
    go_enter Tryd.func9, Tryd.ntmps9
    go_wp2
    go_ret
    exact ⟨by rw [HC.out]; rfl, HB.out⟩
  by_cases m1 : m = -1
  case pos =>
    subst m1
    have HC : Hid (chk 7 0 P false l (-1) lz t = true) := by show chk 7 0 P false l (-1) lz t = true; unfold chk repP; simp [ht0, hzz]; omega
    clear h4 hzz
    unfold tokI
    go_enter Tryd.func9, Tryd.ntmps9
    go_wp2
    go_ret
    exact ⟨by rw [HC.out]; rfl, HB.out⟩
  have m0 : (m == -1) = false := by simp; omega
  by_cases m2 : l ≤ m
  case neg =>
    have g2 : ¬ m ≥ l := by omega
    have HC : Hid (chk 7 0 P false l m lz t = false) := by show chk 7 0 P false l m lz t = false; unfold chk repP; simp [ht0, hzz]; omega
    clear h4 hzz
    unfold tokI
    go_enter Tryd.func9, Tryd.ntmps9
    go_wp2
    go_ret
    exact ⟨by rw [HC.out]; rfl, HB.out⟩
  have g2 : m ≥ l := m2
  by_cases m3 : m ≤ 1000
  case neg =>
    have HC : Hid (chk 7 0 P false l m lz t = false) := by show chk 7 0 P false l m lz t = false; unfold chk repP; simp [ht0, hzz]; omega
    clear h4 hzz
    unfold tokI
    go_enter Tryd.func9, Tryd.ntmps9
    go_wp2
    go_ret
    exact ⟨by rw [HC.out]; rfl, HB.out⟩
  have HC : Hid (chk 7 0 P false l m lz t = true) := by show chk 7 0 P false l m lz t = true; unfold chk repP; simp [ht0, hzz]; omega
  clear h4 hzz
  unfold tokI
  go_enter Tryd.func9, Tryd.ntmps9
  go_wp2
  go_ret
  exact ⟨by rw [HC.out]; rfl, HB.out⟩
end Go.Proofs.YtkbeiadbolihiaaDoor
