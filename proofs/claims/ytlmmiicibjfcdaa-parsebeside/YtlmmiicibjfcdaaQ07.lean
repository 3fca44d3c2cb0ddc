/- token: what a token is, by one record; escape, unit, open, repeat, sign by it. token: bytesOf: the walk. token: units: the walk where the first unit is bad, or stands alone. token: units: the walks with two units: the second is bad; a range. -/
import Derived.Test.YtlmmiicibjfcdaaQ06
import Derived.Test.YtlmmiicibjfcdaaQ05
import Derived.Deep.RegionWith
namespace Go.Proofs.Ytlmmiicibjfcdaa
open Go.RowKit
/-- A token with its class as a predicate, the place behind it, and the error. -/
structure TokS where
  k : Int
  b : Nat
  P : Nat → Bool
  nt : Bool
  l : Int
  m : Int
  lz : Bool
  at_ : Nat
  en : Nat
  er : Int
def TokS.bad (en : Nat) (er : Int) : TokS := ⟨0, 0, fun _ => false, false, 0, 0, false, 0, en, er⟩
def TokS.sgn (k : Int) (b at_ en : Nat) : TokS := ⟨k, b, fun _ => false, false, 0, 0, false, at_, en, 0⟩
def TokS.cls (P : Nat → Bool) (nt : Bool) (at_ en : Nat) : TokS := ⟨2, 0, P, nt, 0, 0, false, at_, en, 0⟩
def TokS.rep (l m : Int) (lz : Bool) (at_ en : Nat) : TokS := ⟨7, 0, fun _ => false, false, l, m, lz, at_, en, 0⟩
/-- A token in words is the record's. -/
def TokS.is (s : TokS) (k : Int) (b a0 a1 a2 a3 : Nat) (nt : Bool) (l m : Int) (lz : Bool) (at' en : Nat) (er : Int) : Prop :=
  k = s.k ∧ b = s.b ∧ C4 s.P a0 a1 a2 a3 ∧ nt = s.nt ∧ l = s.l ∧ m = s.m ∧ lz = s.lz ∧ at' = s.at_ ∧ en = s.en ∧ er = s.er
/-- A call's answer is the record's token. -/
def RetT (w : World) (s : TokS) : Ending → World → Prop := RetG w s.is
theorem retT_k {w : World} (s : TokS) {e : Ending} {w' : World} (hP : s.P = fun _ => false) (h : RetK w (tokV s.k s.b 0 0 0 0 s.nt s.l s.m s.lz s.at_) (markV s.en s.er) e w') : RetT w s e w' :=
  ⟨_, _, _, _, _, _, _, _, _, _, _, _, _, h.1, ⟨rfl, rfl, by rw [hP]; exact c4_none, rfl, rfl, rfl, rfl, rfl, rfl, rfl⟩, h.2⟩
theorem retT_c {w : World} {P : Nat → Bool} {nt : Bool} {at_ en : Nat} {e : Ending} {w' : World} (h : RetKC w P nt at_ en e w') : RetT w (.cls P nt at_ en) e w' := by
  obtain ⟨a, b, c, d, he, h4, hb⟩ := h
  exact ⟨_, _, _, _, _, _, _, _, _, _, _, _, _, he, ⟨rfl, rfl, h4, rfl, rfl, rfl, rfl, rfl, rfl, rfl⟩, hb⟩
/-- What escape says. -/
def escS (z : Nat → Nat) (n at_ : Nat) : TokS :=
  if n < at_ + 2 then .bad at_ 40
  else if z (at_ + 1) = 100 ∨ z (at_ + 1) = 119 ∨ z (at_ + 1) = 115 ∨ z (at_ + 1) = 68 ∨ z (at_ + 1) = 87 ∨ z (at_ + 1) = 83 then .cls (namP (z (at_ + 1))) false at_ (at_ + 2)
  else if z (at_ + 1) = 110 then .sgn 1 10 at_ (at_ + 2)
  else if z (at_ + 1) = 114 then .sgn 1 13 at_ (at_ + 2)
  else if z (at_ + 1) = 116 then .sgn 1 9 at_ (at_ + 2)
  else if z (at_ + 1) = 120 then (if (hexV z n (at_ + 2)).2 = true then .sgn 1 (hexV z n (at_ + 2)).1 at_ (at_ + 4) else .bad at_ 40)
  else if letP (z (at_ + 1)) = true then .bad at_ 40
  else if digP (z (at_ + 1)) = true then .bad at_ 40
  else .sgn 1 (z (at_ + 1)) at_ (at_ + 2)
theorem esc_any (ao : Option Addr) (n cap at_ : Nat) (z : Nat → Nat) (w : World) (hr : Rd w ao n z) (hn : (n : Int) ≤ 1024) (ha : at_ < n) : Calls Try.prog 84 #[.slice ao n cap, .int .i64 (at_ : Nat)] w (RetT w (escS z n at_)) := by
  unfold escS
  split
  · rename_i h; exact (esc_short ao n cap at_ z w hr hn ha h).mono fun _ _ h => retT_k (.bad at_ 40) rfl h
  rename_i h
  have h2 : at_ + 2 ≤ n := by omega
  split
  · rename_i hq; exact (esc_class ao n cap at_ z w hr hn h2 _ rfl hq).mono fun _ _ h => retT_c h
  rename_i hne
  split
  · rename_i hq; exact (esc_110 ao n cap at_ z w hr hn h2 hq).mono fun _ _ h => retT_k (.sgn 1 10 at_ (at_ + 2)) rfl h
  split
  · rename_i hq; exact (esc_114 ao n cap at_ z w hr hn h2 hq).mono fun _ _ h => retT_k (.sgn 1 13 at_ (at_ + 2)) rfl h
  split
  · rename_i hq; exact (esc_116 ao n cap at_ z w hr hn h2 hq).mono fun _ _ h => retT_k (.sgn 1 9 at_ (at_ + 2)) rfl h
  split
  · rename_i hq
    split
    · rename_i hx; exact (esc_hex ao n cap at_ z w hr hn h2 hq (hexV z n (at_ + 2)).1 (Prod.ext rfl hx)).mono fun _ _ h => retT_k (.sgn 1 (hexV z n (at_ + 2)).1 at_ (at_ + 4)) rfl h
    · rename_i hx; exact (esc_nohex ao n cap at_ z w hr hn h2 hq (hexV z n (at_ + 2)).1 (Prod.ext rfl (by simpa using hx))).mono fun _ _ h => retT_k (.bad at_ 40) rfl h
  rename_i h110 h114 h116 h120
  have hne' : z (at_ + 1) ≠ 100 ∧ z (at_ + 1) ≠ 119 ∧ z (at_ + 1) ≠ 115 ∧ z (at_ + 1) ≠ 68 ∧ z (at_ + 1) ≠ 87 ∧ z (at_ + 1) ≠ 83 ∧ z (at_ + 1) ≠ 110 ∧ z (at_ + 1) ≠ 114 ∧ z (at_ + 1) ≠ 116 ∧ z (at_ + 1) ≠ 120 := by omega
  split
  · rename_i hl; exact (esc_letter ao n cap at_ z w hr hn h2 _ rfl hne' hl).mono fun _ _ h => retT_k (.bad at_ 40) rfl h
  rename_i hl
  split
  · rename_i hd; exact (esc_digit ao n cap at_ z w hr hn h2 _ rfl hne' (by simpa using hl) hd).mono fun _ _ h => retT_k (.bad at_ 40) rfl h
  · rename_i hd; exact (esc_plain ao n cap at_ z w hr hn h2 _ rfl hne' (by simpa using hl) (by simpa using hd)).mono fun _ _ h => retT_k (.sgn 1 (z (at_ + 1)) at_ (at_ + 2)) rfl h
/-- What unit says. -/
def uniS (z : Nat → Nat) (n at_ : Nat) : TokS := if z at_ = 92 then escS z n at_ else .sgn 1 (z at_) at_ (at_ + 1)
theorem unit_any (ao : Option Addr) (n cap at_ : Nat) (z : Nat → Nat) (w : World) (hr : Rd w ao n z) (hn : (n : Int) ≤ 1024) (ha : at_ < n) : Calls Try.prog 118 #[.slice ao n cap, .int .i64 (at_ : Nat)] w (RetT w (uniS z n at_)) := by
  unfold uniS
  split
  · rename_i hq; exact unit_esc ao n cap at_ z w hr ha hq _ fun W hb => esc_any ao n cap at_ z W (hr.below hb) hn ha
  · rename_i hq; exact (unit_byte ao n cap at_ z w hr hn ha _ rfl hq).mono fun _ _ h => retT_k (.sgn 1 (z at_) at_ (at_ + 1)) rfl h
/-- What open says. -/
def opnS (z : Nat → Nat) (n at_ : Nat) : TokS := if hasP z n (at_ + 1) 63 = false then .sgn 4 0 at_ (at_ + 1) else if hasP z n (at_ + 2) 58 = true then .sgn 4 0 at_ (at_ + 3) else .bad at_ 44
theorem open_any (ao : Option Addr) (n cap at_ : Nat) (z : Nat → Nat) (w : World) (hr : Rd w ao n z) (hn : (n : Int) ≤ 1024) (ha : at_ < n) : Calls Try.prog 86 #[.slice ao n cap, .int .i64 (at_ : Nat)] w (RetT w (opnS z n at_)) := by
  unfold opnS
  split
  · rename_i h1; exact (open_plain ao n cap at_ z w hr hn ha h1).mono fun _ _ h => retT_k (.sgn 4 0 at_ (at_ + 1)) rfl h
  rename_i h1
  split
  · rename_i h2; exact (open_group ao n cap at_ z w hr hn ha (by simpa using h1) h2).mono fun _ _ h => retT_k (.sgn 4 0 at_ (at_ + 3)) rfl h
  · rename_i h2; exact (open_wrong ao n cap at_ z w hr hn ha (by simpa using h1) (by simpa using h2)).mono fun _ _ h => retT_k (.bad at_ 44) rfl h
/-- What repeat says. -/
def rptS (z : Nat → Nat) (n at_ : Nat) : TokS :=
  if (repS z n at_).2.2.2 ≠ 0 then .bad (repS z n at_).2.2.1 (repS z n at_).2.2.2
  else if hasP z n (repS z n at_).2.2.1 63 = true then .rep (repS z n at_).1 (repS z n at_).2.1 true at_ ((repS z n at_).2.2.1 + 1)
  else .rep (repS z n at_).1 (repS z n at_).2.1 false at_ (repS z n at_).2.2.1
theorem repeat_any (ao : Option Addr) (n cap at_ : Nat) (z : Nat → Nat) (w : World) (hr : Rd w ao n z) (hn : (n : Int) ≤ 1024) (ha : at_ < n) (hq : z at_ = 42 ∨ z at_ = 43 ∨ z at_ = 63 ∨ z at_ = 123) : Calls Try.prog 87 #[.slice ao n cap, .int .i64 (at_ : Nat)] w (RetT w (rptS z n at_)) := by
  have h := rep_any ao n cap at_ z w hr hn ha hq
  unfold rptS
  unfold RetRp at h
  split
  · rename_i h1; rw [if_pos h1] at h; exact h.mono fun _ _ h => retT_k (.bad (repS z n at_).2.2.1 (repS z n at_).2.2.2) rfl h
  rename_i h1
  rw [if_neg h1] at h
  split
  · rename_i h2; rw [if_pos h2] at h; exact h.mono fun _ _ h => retT_k (.rep (repS z n at_).1 (repS z n at_).2.1 true at_ ((repS z n at_).2.2.1 + 1)) rfl h
  · rename_i h2; rw [if_neg h2] at h; exact h.mono fun _ _ h => retT_k (.rep (repS z n at_).1 (repS z n at_).2.1 false at_ (repS z n at_).2.2.1) rfl h
/-- What sign says. -/
def sgnS (z : Nat → Nat) (at_ : Nat) : TokS := .sgn (signK (z at_) : Nat) (if signK (z at_) = 1 then z at_ else 0) at_ (at_ + 1)
theorem sign_t (ao : Option Addr) (n cap at_ : Nat) (z : Nat → Nat) (w : World) (hr : Rd w ao n z) (hn : (n : Int) ≤ 1024) (ha : at_ < n) : Calls Try.prog 88 #[.slice ao n cap, .int .i64 (at_ : Nat)] w (RetT w (sgnS z at_)) :=
  (sign_any ao n cap at_ z w hr hn ha).mono fun _ _ h => retT_k (sgnS z at_) rfl h
/-- What word says, given what bracket says. -/
def wrdS (br : TokS) (z : Nat → Nat) (n at_ : Nat) : TokS :=
  if z at_ = 92 then escS z n at_
  else if z at_ = 91 then br
  else if z at_ = 40 then opnS z n at_
  else if z at_ = 42 ∨ z at_ = 43 ∨ z at_ = 63 ∨ z at_ = 123 then rptS z n at_
  else sgnS z at_
theorem word_t (ao : Option Addr) (n cap at_ : Nat) (z : Nat → Nat) (w : World) (hr : Rd w ao n z) (hn : (n : Int) ≤ 1024) (ha : at_ < n) (br : TokS) (hbr : z at_ = 91 → ∀ W, Below w.heap.size w W → Calls Try.prog 85 #[.slice ao n cap, .int .i64 (at_ : Nat)] W (RetT W br)) : Calls Try.prog 77 #[.slice ao n cap, .int .i64 (at_ : Nat)] w (RetT w (wrdS br z n at_)) := by
  unfold wrdS
  split
  · rename_i hq; exact word_esc ao n cap at_ z w hr ha hq _ fun W hb => esc_any ao n cap at_ z W (hr.below hb) hn ha
  rename_i h92
  split
  · rename_i hq; exact word_bracket ao n cap at_ z w hr ha hq _ (hbr hq)
  rename_i h91
  split
  · rename_i hq; exact word_open ao n cap at_ z w hr ha hq _ fun W hb => open_any ao n cap at_ z W (hr.below hb) hn ha
  rename_i h40
  split
  · rename_i hq
    have hR : ∀ W, Below w.heap.size w W → Calls Try.prog 87 #[.slice ao n cap, .int .i64 (at_ : Nat)] W (RetG W (rptS z n at_).is) := fun W hb => repeat_any ao n cap at_ z W (hr.below hb) hn ha hq
    rcases hq with hq | hq | hq | hq
    · exact word_rep42 ao n cap at_ z w hr ha hq _ hR
    · exact word_rep43 ao n cap at_ z w hr ha hq _ hR
    · exact word_rep63 ao n cap at_ z w hr ha hq _ hR
    · exact word_rep123 ao n cap at_ z w hr ha hq _ hR
  · rename_i hne
    exact word_sign ao n cap at_ z w hr ha _ rfl (by omega) _ fun W hb => sign_t ao n cap at_ z W (hr.below hb) hn ha
end Go.Proofs.Ytlmmiicibjfcdaa
namespace Go.Proofs.Ytlmmiicibjfcdaa
open Go.RowKit
set_option maxRecDepth 10000 in
set_option maxHeartbeats 2000000 in
theorem bytesOf_class {P : Nat → Bool} {a0 a1 a2 a3 : Nat} (h4 : C4 P a0 a1 a2 a3) (nt : Bool) (l m : Int) (lz : Bool) (at_ : Nat) (w : World) : Calls Try.prog 120 #[tokV 2 0 a0 a1 a2 a3 nt l m lz at_] w (RetC w P) := by
  unfold tokV
  go_enter Try.func120, Try.ntmps120
  go_wp2
  exact bodyPost_ret (v := .agg #[.int .u64 (a0 : Nat), .int .u64 (a1 : Nat), .int .u64 (a2 : Nat), .int .u64 (a3 : Nat)]) (by simp [results, Try.results120, go_sem]) rfl ⟨⟨a0, a1, a2, a3, rfl, h4⟩, bel2 _ _ _⟩
set_option maxRecDepth 10000 in
set_option maxHeartbeats 2000000 in
theorem bytesOf_byte (b : Nat) (hb : b < 256) (at_ : Nat) (w : World) : Calls Try.prog 120 #[tokV 1 b 0 0 0 0 false 0 0 false at_] w (RetC w (ofN (fun _ => b) 1)) := by
  unfold tokV
  have hO : Hid (∀ W : World, Calls Try.prog 28 #[.slice (some ⟨W.heap.size, 0, none⟩) 1 1] (W.alloc (.cells #[.int .u8 (b : Nat)] 5)) (RetC (W.alloc (.cells #[.int .u8 (b : Nat)] 5)) (ofN (fun _ => b) 1))) := fun W => of_any _ 1 1 (fun _ => b) _ (rd_one _ _ hb) (by decide)
  go_enter Try.func120, Try.ntmps120
  go_wp2_with fail
  have hO1 := hO.out ((w.alloc (.cells #[.int .i64 1, .int .u8 (b : Nat), .int .u64 0, .int .u64 0, .int .u64 0, .int .u64 0, .bool false, .int .i64 0, .int .i64 0, .bool false, .int .i64 (at_ : Nat)] 42)).alloc (.cells #[.int .u64 0, .int .u64 0, .int .u64 0, .int .u64 0] 40))
  simp only [World.size_alloc] at hO1
  refine hO1.mono ?_
  rintro e w1 ⟨⟨a, b', c, d, rfl, h4⟩, hb1⟩
  have hx : Bx w1 (w.heap.size + 1) (.int .u64 0) (.int .u64 0) (.int .u64 0) (.int .u64 0) := by
    have := ((Bx.new (w.alloc (.cells #[.int .i64 1, .int .u8 (b : Nat), .int .u64 0, .int .u64 0, .int .u64 0, .int .u64 0, .bool false, .int .i64 0, .int .i64 0, .bool false, .int .i64 (at_ : Nat)] 42)) (.int .u64 0) (.int .u64 0) (.int .u64 0) (.int .u64 0)).alloc (.cells #[.int .u8 (b : Nat)] 5)).below hb1
    simpa using this
  have hB1 : Below w.heap.size w w1 := (bel3 w _ _ _).trans (hb1.mono (by simp; omega))
  obtain ⟨y0, y1, y2, y3, v0, v1, v2, v3⟩ := hx.cells
  obtain ⟨z0, z1, z2, z3, _⟩ := (hx.set (.int .u64 (a : Nat)) (.int .u64 (b' : Nat)) (.int .u64 (c : Nat)) (.int .u64 (d : Nat))).cells
  have HB : Hid (Below w.heap.size w (put4 w1 (w.heap.size + 1) (.int .u64 (a : Nat)) (.int .u64 (b' : Nat)) (.int .u64 (c : Nat)) (.int .u64 (d : Nat)))) := below_put4 hB1 (by omega) _ _ _ _
  clear hb1 hO1 hB1
  go_wp2
  exact bodyPost_ret (v := .agg #[.int .u64 (a : Nat), .int .u64 (b' : Nat), .int .u64 (c : Nat), .int .u64 (d : Nat)]) (by simp [results, Try.results120, go_sem, z0, z1, z2, z3]) rfl ⟨⟨a, b', c, d, rfl, h4⟩, HB.out⟩
end Go.Proofs.Ytlmmiicibjfcdaa
namespace Go.Proofs.Ytlmmiicibjfcdaa
open Go.RowKit
/-- A class and a mark; nothing old has turned. -/
def RetU (w : World) (P : Nat → Bool) (en : Nat) (er : Int) (e : Ending) (w' : World) : Prop :=
  ∃ a b c d : Nat, e = .returned (.tuple #[.agg #[.int .u64 (a : Nat), .int .u64 (b : Nat), .int .u64 (c : Nat), .int .u64 (d : Nat)], markV en er]) ∧ C4 P a b c d ∧ Below w.heap.size w w'
/-- The four blocks of units, the last two at S. -/
structure Uq (w : World) (S : Nat) (k : Int) (b a0 a1 a2 a3 : Nat) (nt : Bool) (l m : Int) (lz : Bool) (at' en : Nat) (er : Int) (W : World) : Prop where
  k0 : Cl W w.heap.size 40 [.int .u64 0, .int .u64 0, .int .u64 0, .int .u64 0]
  k1 : Cl W (w.heap.size + 1) 96 [.int .i64 0, .int .i64 0]
  k2 : Cl W S 42 [.int .i64 k, .int .u8 (b : Nat), .int .u64 (a0 : Nat), .int .u64 (a1 : Nat), .int .u64 (a2 : Nat), .int .u64 (a3 : Nat), .bool nt, .int .i64 l, .int .i64 m, .bool lz, .int .i64 (at' : Nat)]
  k3 : Cl W (S + 1) 96 [.int .i64 (en : Nat), .int .i64 er]
  bel : Below w.heap.size w W
  lt : w.heap.size + 2 ≤ S
theorem Cl.four {w : World} {b : Nat} {t : TypeId} {x0 x1 x2 x3 : Value} (h : Cl w b t [x0, x1, x2, x3]) : (w.cell? ⟨b, 0, none⟩ = some x0 ∧ w.cell? ⟨b, 1, none⟩ = some x1 ∧ w.cell? ⟨b, 2, none⟩ = some x2 ∧ w.cell? ⟨b, 3, none⟩ = some x3) ∧ w.frozen? ⟨b, 0, none⟩ = false ∧ w.frozen? ⟨b, 1, none⟩ = false ∧ w.frozen? ⟨b, 2, none⟩ = false ∧ w.frozen? ⟨b, 3, none⟩ = false :=
  ⟨⟨h.cell 0 rfl, h.cell 1 rfl, h.cell 2 rfl, h.cell 3 rfl⟩, h.frozen 0, h.frozen 1, h.frozen 2, h.frozen 3⟩
def putc (w : World) (b : Nat) (x0 x1 x2 x3 : Value) : World := (((w.setCell ⟨b, 0, none⟩ x0).setCell ⟨b, 1, none⟩ x1).setCell ⟨b, 2, none⟩ x2).setCell ⟨b, 3, none⟩ x3
theorem Cl.putc {w : World} {b : Nat} {t : TypeId} {y0 y1 y2 y3 : Value} (h : Cl w b t [y0, y1, y2, y3]) (x0 x1 x2 x3 : Value) : Cl (Ytlmmiicibjfcdaa.putc w b x0 x1 x2 x3) b t [x0, x1, x2, x3] := (((h.set 0 x0).set 1 x1).set 2 x2).set 3 x3
theorem Cl.others4 {w : World} {b k : Nat} {t : TypeId} {vs : List Value} (h : Cl w b t vs) (hk : k ≠ b) (x0 x1 x2 x3 : Value) : Cl (Ytlmmiicibjfcdaa.putc w k x0 x1 x2 x3) b t vs := (((h.other hk 0 x0).other hk 1 x1).other hk 2 x2).other hk 3 x3
theorem below_putc {w w' : World} {B b : Nat} (h : Below B w w') (hb : B ≤ b) (x0 x1 x2 x3 : Value) : Below B w (putc w' b x0 x1 x2 x3) := (((h.setCell (p := ⟨b, 0, none⟩) hb x0).setCell (p := ⟨b, 1, none⟩) hb x1).setCell (p := ⟨b, 2, none⟩) hb x2).setCell (p := ⟨b, 3, none⟩) hb x3
theorem el0 (w : World) : Cl ((w.alloc (.cells #[.int .u64 0, .int .u64 0, .int .u64 0, .int .u64 0] 40)).alloc (.cells #[.int .i64 0, .int .i64 0] 96)) w.heap.size 40 [.int .u64 0, .int .u64 0, .int .u64 0, .int .u64 0] := (Cl.new w 40 _).alloc _
theorem uq_start (w w1 : World) (k : Int) (b a0 a1 a2 a3 : Nat) (nt : Bool) (l m : Int) (lz : Bool) (at' en : Nat) (er : Int)
    (hb : Below ((w.alloc (.cells #[.int .u64 0, .int .u64 0, .int .u64 0, .int .u64 0] 40)).alloc (.cells #[.int .i64 0, .int .i64 0] 96)).heap.size ((w.alloc (.cells #[.int .u64 0, .int .u64 0, .int .u64 0, .int .u64 0] 40)).alloc (.cells #[.int .i64 0, .int .i64 0] 96)) w1) :
    Uq w w1.heap.size k b a0 a1 a2 a3 nt l m lz at' en er ((w1.alloc (.cells #[.int .i64 k, .int .u8 (b : Nat), .int .u64 (a0 : Nat), .int .u64 (a1 : Nat), .int .u64 (a2 : Nat), .int .u64 (a3 : Nat), .bool nt, .int .i64 l, .int .i64 m, .bool lz, .int .i64 (at' : Nat)] 42)).alloc (.cells #[.int .i64 (en : Nat), .int .i64 er] 96)) := by
  have hs := hb.size
  simp only [World.size_alloc] at hs
  refine ⟨(((el0 w).below hb).alloc _).alloc _, (((dl1 w _).below hb).alloc _).alloc _, (Cl.new w1 42 _).alloc _, ?_, ?_, by omega⟩
  · have := Cl.new (w1.alloc (.cells #[.int .i64 k, .int .u8 (b : Nat), .int .u64 (a0 : Nat), .int .u64 (a1 : Nat), .int .u64 (a2 : Nat), .int .u64 (a3 : Nat), .bool nt, .int .i64 l, .int .i64 m, .bool lz, .int .i64 (at' : Nat)] 42)) 96 [.int .i64 (en : Nat), .int .i64 er]
    simpa using this
  · exact (((bel2 w _ _).trans (hb.mono (by simp; omega))).alloc (by omega) _).alloc (by simp; omega) _
theorem Uq.next {w W w1 : World} {S : Nat} {k : Int} {b a0 a1 a2 a3 : Nat} {nt : Bool} {l m : Int} {lz : Bool} {at' en : Nat} {er : Int} (h : Uq w S k b a0 a1 a2 a3 nt l m lz at' en er W) (hb : Below W.heap.size W w1) : Uq w S k b a0 a1 a2 a3 nt l m lz at' en er w1 :=
  ⟨h.k0.below hb, h.k1.below hb, h.k2.below hb, h.k3.below hb, h.bel.trans (hb.mono h.bel.size), h.lt⟩
set_option maxRecDepth 10000 in
set_option maxHeartbeats 8000000 in
theorem un_bad (ao : Option Addr) (n cap at_ : Nat) (z : Nat → Nat) (w : World) (hr : Rd w ao n z) (hn : (n : Int) ≤ 1024) (ha : at_ < n) (he : (uniS z n at_).er ≠ 0) : Calls Try.prog 100 #[.slice ao n cap, .int .i64 (at_ : Nat)] w (RetU w (fun _ => false) (uniS z n at_).en (uniS z n at_).er) := by
  have HU : Hid (∀ W, Below w.heap.size w W → Calls Try.prog 118 #[.slice ao n cap, .int .i64 (at_ : Nat)] W (RetT W (uniS z n at_))) := fun W hb => unit_any ao n cap at_ z W (hr.below hb) hn ha
  generalize uniS z n at_ = s at *
  go_enter Try.func100, Try.ntmps100
  go_wp2_with fail
  refine (HU.out _ (bel2 _ _ _)).mono ?_
  rintro e w1 ⟨k, b, a0, a1, a2, a3, nt, l, m, lz, at', en, er, rfl, ⟨-, -, -, -, -, -, -, -, rfl, rfl⟩, hb⟩
  have uq := uq_start w w1 k b a0 a1 a2 a3 nt l m lz at' s.en s.er hb
  simp only [tokV, markV]
  go_wp2_with fail
  generalize ((w1.alloc (.cells #[.int .i64 k, .int .u8 (b : Nat), .int .u64 (a0 : Nat), .int .u64 (a1 : Nat), .int .u64 (a2 : Nat), .int .u64 (a3 : Nat), .bool nt, .int .i64 l, .int .i64 m, .bool lz, .int .i64 (at' : Nat)] 42)).alloc (.cells #[.int .i64 (s.en : Nat), .int .i64 s.er] 96)) = W at *
  have hS := uq.lt
  generalize w1.heap.size = S at *
  clear hb
  obtain ⟨⟨r0, r1⟩, s0, s1⟩ := uq.k3.two
  obtain ⟨⟨c0, c1, c2, c3⟩, h0, h1, h2, h3⟩ := uq.k0.four
  obtain ⟨⟨d0, d1⟩, e0, e1⟩ := uq.k1.two
  have F := ((uq.k0.putc (.int .u64 0) (.int .u64 0) (.int .u64 0) (.int .u64 0)).others2 (k := w.heap.size + 1) (by omega) (.int .i64 (s.en : Nat)) (.int .i64 s.er)).drew.four.1
  have G := ((uq.k1.others4 (k := w.heap.size) (by omega) (.int .u64 0) (.int .u64 0) (.int .u64 0) (.int .u64 0)).put2 (.int .i64 (s.en : Nat)) (.int .i64 s.er)).drew.two.1
  have hB4 := (below_put2 (b := w.heap.size + 1) (below_putc (b := w.heap.size) uq.bel (Nat.le_refl _) (.int .u64 0) (.int .u64 0) (.int .u64 0) (.int .u64 0)) (by omega) (.int .i64 (s.en : Nat)) (.int .i64 s.er)).drew
  simp only [put2, putc] at F G
  obtain ⟨F0, F1, F2, F3⟩ := F
  obtain ⟨G0, G1⟩ := G
  have HF : Hid (Below w.heap.size w _) := hB4
  have n1 : S + 1 ≠ w.heap.size := by omega
  have n2 : S + 1 ≠ w.heap.size + 1 := by omega
  have n3 : S ≠ w.heap.size := by omega
  have n4 : S ≠ w.heap.size + 1 := by omega
  clear hB4 uq
  go_region_with (fail)
  all_goals go_wp2
  all_goals exact bodyPost_ret (v := .tuple #[.agg #[.int .u64 0, .int .u64 0, .int .u64 0, .int .u64 0], markV s.en s.er]) (by simp [results, Try.results100, go_sem, markV, F0, F1, F2, F3, G0, G1]) rfl ⟨0, 0, 0, 0, rfl, c4_none, HF.out⟩
set_option maxRecDepth 10000 in
set_option maxHeartbeats 8000000 in
theorem un_one (ao : Option Addr) (n cap at_ : Nat) (w : World) (s : TokS) (P : Nat → Bool) (he : s.er = 0)
    (HU : Hid (∀ W, Below w.heap.size w W → Calls Try.prog 118 #[.slice ao n cap, .int .i64 (at_ : Nat)] W (RetT W s)))
    (HD : Hid (∀ W, Below w.heap.size w W → Calls Try.prog 119 #[.slice ao n cap, .int .i64 (s.en : Nat)] W fun e w' => e = .returned (.bool false) ∧ w' = W))
    (HB : Hid (∀ k b a0 a1 a2 a3 nt l m lz at' en er, s.is k b a0 a1 a2 a3 nt l m lz at' en er → ∀ W, Calls Try.prog 120 #[tokV k b a0 a1 a2 a3 nt l m lz at'] W (RetC W P))) : Calls Try.prog 100 #[.slice ao n cap, .int .i64 (at_ : Nat)] w (RetU w P s.en 0) := by
  go_enter Try.func100, Try.ntmps100
  go_wp2_with fail
  refine (HU.out _ (bel2 _ _ _)).mono ?_
  rintro e w1 ⟨k, b, a0, a1, a2, a3, nt, l, m, lz, at', en, er, rfl, hs, hb⟩
  have hB := HB.out _ _ _ _ _ _ _ _ _ _ _ _ _ hs
  obtain ⟨-, -, -, -, -, -, -, -, rfl, rfl⟩ := hs
  rw [he]
  have HC : Hid (∀ W, Calls Try.prog 120 #[.agg #[.int .i64 k, .int .u8 (b : Nat), .int .u64 (a0 : Nat), .int .u64 (a1 : Nat), .int .u64 (a2 : Nat), .int .u64 (a3 : Nat), .bool nt, .int .i64 l, .int .i64 m, .bool lz, .int .i64 (at' : Nat)]] W (RetC W P)) := hB
  clear hB HB HU
  have uq := uq_start w w1 k b a0 a1 a2 a3 nt l m lz at' s.en 0 hb
  simp only [tokV, markV]
  go_wp2_with fail
  refine (HD.out _ uq.bel).mono ?_
  rintro e w2 ⟨rfl, rfl⟩
  generalize ((w1.alloc (.cells #[.int .i64 k, .int .u8 (b : Nat), .int .u64 (a0 : Nat), .int .u64 (a1 : Nat), .int .u64 (a2 : Nat), .int .u64 (a3 : Nat), .bool nt, .int .i64 l, .int .i64 m, .bool lz, .int .i64 (at' : Nat)] 42)).alloc (.cells #[.int .i64 (s.en : Nat), .int .i64 0] 96)) = W at *
  have hS := uq.lt
  generalize w1.heap.size = S at *
  clear hb HD
  obtain ⟨⟨b0, b1, b2, b3, b4, b5, b6, b7, b8, b9, b10⟩, g0, g1, g2, g3, g4, g5, g6, g7, g8, g9, g10⟩ := uq.k2.eleven
  obtain ⟨⟨r0, r1⟩, s0, s1⟩ := uq.k3.two
  have n1 : S + 1 ≠ w.heap.size := by omega
  have n2 : S + 1 ≠ w.heap.size + 1 := by omega
  have n3 : S ≠ w.heap.size := by omega
  have n4 : S ≠ w.heap.size + 1 := by omega
  have HQ : Hid (Uq w S k b a0 a1 a2 a3 nt l m lz at' s.en 0 W) := uq
  clear uq
  go_wp2_with fail
  go_region_with (first | (
    go_at_call 120
    refine (HC.out _).mono ?_
    rintro e w2 ⟨⟨x0, x1, x2, x3, rfl, h4⟩, hb2⟩
    have u2 := (HQ.out.next (Below.refl _ _).drew).next hb2
    have H4 : Hid (C4 P x0 x1 x2 x3) := h4
    obtain ⟨⟨t0, t1⟩, v0, v1⟩ := u2.k3.two
    obtain ⟨⟨c0, c1, c2, c3⟩, h0, h1, h2, h3⟩ := u2.k0.four
    obtain ⟨⟨d0, d1⟩, e0, e1⟩ := u2.k1.two
    have F := ((u2.k0.putc (.int .u64 (x0 : Nat)) (.int .u64 (x1 : Nat)) (.int .u64 (x2 : Nat)) (.int .u64 (x3 : Nat))).others2 (k := w.heap.size + 1) (by omega) (.int .i64 (s.en : Nat)) (.int .i64 0)).four.1
    have G := ((u2.k1.others4 (k := w.heap.size) (by omega) (.int .u64 (x0 : Nat)) (.int .u64 (x1 : Nat)) (.int .u64 (x2 : Nat)) (.int .u64 (x3 : Nat))).put2 (.int .i64 (s.en : Nat)) (.int .i64 0)).two.1
    have hB4 := below_put2 (b := w.heap.size + 1) (below_putc (b := w.heap.size) u2.bel (Nat.le_refl _) (.int .u64 (x0 : Nat)) (.int .u64 (x1 : Nat)) (.int .u64 (x2 : Nat)) (.int .u64 (x3 : Nat))) (by omega) (.int .i64 (s.en : Nat)) (.int .i64 0)
    simp only [put2, putc] at F G
    obtain ⟨F0, F1, F2, F3⟩ := F
    obtain ⟨G0, G1⟩ := G
    have HF : Hid (Below w.heap.size w _) := hB4
    clear hB4 u2 h4 hb2))
  all_goals go_wp2
  all_goals exact bodyPost_ret (v := .tuple #[.agg #[.int .u64 (x0 : Nat), .int .u64 (x1 : Nat), .int .u64 (x2 : Nat), .int .u64 (x3 : Nat)], markV s.en 0]) (by simp [results, Try.results100, go_sem, markV, F0, F1, F2, F3, G0, G1]) rfl ⟨x0, x1, x2, x3, rfl, H4.out, HF.out⟩
end Go.Proofs.Ytlmmiicibjfcdaa
namespace Go.Proofs.Ytlmmiicibjfcdaa
open Go.RowKit
set_option maxRecDepth 60000 in
set_option maxHeartbeats 8000000 in
theorem un_bad2 (ao : Option Addr) (n cap at_ : Nat) (w : World) (s : TokS) (he : s.er = 0)
    (HU : Hid (∀ W, Below w.heap.size w W → Calls Try.prog 118 #[.slice ao n cap, .int .i64 (at_ : Nat)] W (RetT W s)))
    (HD : Hid (∀ W, Below w.heap.size w W → Calls Try.prog 119 #[.slice ao n cap, .int .i64 (s.en : Nat)] W fun e w' => e = .returned (.bool true) ∧ w' = W))
    (t : TokS) (HV : Hid (∀ W, Below w.heap.size w W → Calls Try.prog 118 #[.slice ao n cap, .int .i64 ((s.en : Int) + 1)] W (RetT W t))) (hse : (s.en : Int) ≤ 2048) (ht : t.er ≠ 0) : Calls Try.prog 100 #[.slice ao n cap, .int .i64 (at_ : Nat)] w (RetU w (fun _ => false) t.en t.er) := by
  go_enter Try.func100, Try.ntmps100
  go_wp2_with fail
  refine (HU.out _ (bel2 _ _ _)).mono ?_
  rintro e w1 ⟨k, b, a0, a1, a2, a3, nt, l, m, lz, at', en, er, rfl, hs, hb⟩
  obtain ⟨-, -, -, -, -, -, -, -, rfl, rfl⟩ := hs
  rw [he]
  clear HU
  have uq := uq_start w w1 k b a0 a1 a2 a3 nt l m lz at' s.en 0 hb
  simp only [tokV, markV]
  go_wp2_with fail
  refine (HD.out _ uq.bel).mono ?_
  rintro e w2 ⟨rfl, rfl⟩
  generalize ((w1.alloc (.cells #[.int .i64 k, .int .u8 (b : Nat), .int .u64 (a0 : Nat), .int .u64 (a1 : Nat), .int .u64 (a2 : Nat), .int .u64 (a3 : Nat), .bool nt, .int .i64 l, .int .i64 m, .bool lz, .int .i64 (at' : Nat)] 42)).alloc (.cells #[.int .i64 (s.en : Nat), .int .i64 0] 96)) = W at *
  have hS := uq.lt
  generalize w1.heap.size = S at *
  clear hb HD
  obtain ⟨⟨b0, b1, b2, b3, b4, b5, b6, b7, b8, b9, b10⟩, g0, g1, g2, g3, g4, g5, g6, g7, g8, g9, g10⟩ := uq.k2.eleven
  obtain ⟨⟨r0, r1⟩, s0, s1⟩ := uq.k3.two
  have n1 : S + 1 ≠ w.heap.size := by omega
  have n2 : S + 1 ≠ w.heap.size + 1 := by omega
  have n3 : S ≠ w.heap.size := by omega
  have n4 : S ≠ w.heap.size + 1 := by omega
  have HQ : Hid (Uq w S k b a0 a1 a2 a3 nt l m lz at' s.en 0 W) := uq
  clear uq
  have i5 : (s.en : Int) + 1 < 9223372036854775808 := by omega
  go_wp2_with fail
  refine (HV.out _ HQ.out.bel).mono ?_
  rintro e w2 ⟨k', b', a0', a1', a2', a3', nt', l', m', lz', at'', en', er', rfl, hs', hb2⟩
  obtain ⟨-, -, -, -, -, -, -, -, rfl, rfl⟩ := hs'
  have u2 := HQ.out.next hb2
  obtain ⟨⟨t0, t1⟩, v0, v1⟩ := u2.k3.two
  have l2 : S + 1 < w2.heap.size := u2.k3.lt
  have n5 : w2.heap.size ≠ S + 1 := by omega
  have n6 : S + 1 ≠ w2.heap.size := by omega
  have u3 := (u2.k3.alloc (.cells #[.int .i64 k', .int .u8 (b' : Nat), .int .u64 (a0' : Nat), .int .u64 (a1' : Nat), .int .u64 (a2' : Nat), .int .u64 (a3' : Nat), .bool nt', .int .i64 l', .int .i64 m', .bool lz', .int .i64 (at'' : Nat)] 42))
  have v3 := u3.put2 (.int .i64 (t.en : Nat)) (.int .i64 t.er)
  have vk0 := (u2.k0.alloc (.cells #[.int .i64 k', .int .u8 (b' : Nat), .int .u64 (a0' : Nat), .int .u64 (a1' : Nat), .int .u64 (a2' : Nat), .int .u64 (a3' : Nat), .bool nt', .int .i64 l', .int .i64 m', .bool lz', .int .i64 (at'' : Nat)] 42)).others2 (k := S + 1) (by omega) (.int .i64 (t.en : Nat)) (.int .i64 t.er)
  have vk1 := (u2.k1.alloc (.cells #[.int .i64 k', .int .u8 (b' : Nat), .int .u64 (a0' : Nat), .int .u64 (a1' : Nat), .int .u64 (a2' : Nat), .int .u64 (a3' : Nat), .bool nt', .int .i64 l', .int .i64 m', .bool lz', .int .i64 (at'' : Nat)] 42)).others2 (k := S + 1) (by omega) (.int .i64 (t.en : Nat)) (.int .i64 t.er)
  have vb := below_put2 (b := S + 1) (u2.bel.alloc u2.bel.size (.cells #[.int .i64 k', .int .u8 (b' : Nat), .int .u64 (a0' : Nat), .int .u64 (a1' : Nat), .int .u64 (a2' : Nat), .int .u64 (a3' : Nat), .bool nt', .int .i64 l', .int .i64 m', .bool lz', .int .i64 (at'' : Nat)] 42)) (by omega) (.int .i64 (t.en : Nat)) (.int .i64 t.er)
  obtain ⟨⟨p0, p1⟩, q0, q1⟩ := u3.two
  simp only [put2] at v3 vk0 vk1 vb
  clear u3 t0 t1 v0 v1 u2 l2 hb2 HV he n1 n2 n3 n4 i5 hse b0 b1 b2 b3 b4 b5 b6 b7 b8 b9 b10 g0 g1 g2 g3 g4 g5 g6 g7 g8 g9 g10 r0 r1 s0 s1
  have HV3 : Hid (Cl _ _ _ _) := v3
  have HV0 : Hid (Cl _ _ _ _) := vk0
  have HV1 : Hid (Cl _ _ _ _) := vk1
  have HVb : Hid (Below _ _ _) := vb
  have HS : Hid (w.heap.size + 2 ≤ S) := hS
  clear v3 vk0 vk1 vb hS
  simp only [tokV, markV]
  go_wp2_with fail
  generalize (((w2.alloc (.cells #[.int .i64 k', .int .u8 (b' : Nat), .int .u64 (a0' : Nat), .int .u64 (a1' : Nat), .int .u64 (a2' : Nat), .int .u64 (a3' : Nat), .bool nt', .int .i64 l', .int .i64 m', .bool lz', .int .i64 (at'' : Nat)] 42)).setCell ⟨S + 1, 0, none⟩ (.int .i64 (t.en : Nat))).setCell ⟨S + 1, 1, none⟩ (.int .i64 t.er)) = W3 at *
  have hS := HS.out
  obtain ⟨⟨r0, r1⟩, s0, s1⟩ := HV3.out.two
  obtain ⟨⟨c0, c1, c2, c3⟩, h0, h1, h2, h3⟩ := HV0.out.four
  obtain ⟨⟨d0, d1⟩, e0, e1⟩ := HV1.out.two
  have F := ((HV0.out.putc (.int .u64 0) (.int .u64 0) (.int .u64 0) (.int .u64 0)).others2 (k := w.heap.size + 1) (by omega) (.int .i64 (t.en : Nat)) (.int .i64 t.er)).drew.four.1
  have G := ((HV1.out.others4 (k := w.heap.size) (by omega) (.int .u64 0) (.int .u64 0) (.int .u64 0) (.int .u64 0)).put2 (.int .i64 (t.en : Nat)) (.int .i64 t.er)).drew.two.1
  have hB4 := (below_put2 (b := w.heap.size + 1) (below_putc (b := w.heap.size) HVb.out (Nat.le_refl _) (.int .u64 0) (.int .u64 0) (.int .u64 0) (.int .u64 0)) (by omega) (.int .i64 (t.en : Nat)) (.int .i64 t.er)).drew
  simp only [put2, putc] at F G
  obtain ⟨F0, F1, F2, F3⟩ := F
  obtain ⟨G0, G1⟩ := G
  have HF : Hid (Below w.heap.size w _) := hB4
  have n1 : S + 1 ≠ w.heap.size := by omega
  have n2 : S + 1 ≠ w.heap.size + 1 := by omega
  clear hB4 hS
  go_region_with (fail)
  all_goals go_wp2
  all_goals exact bodyPost_ret (v := .tuple #[.agg #[.int .u64 0, .int .u64 0, .int .u64 0, .int .u64 0], markV t.en t.er]) (by simp [results, Try.results100, go_sem, markV, F0, F1, F2, F3, G0, G1]) rfl ⟨0, 0, 0, 0, rfl, c4_none, HF.out⟩
set_option maxRecDepth 60000 in
set_option maxHeartbeats 8000000 in
theorem un_rng (ao : Option Addr) (n cap at_ : Nat) (w : World) (s : TokS) (he : s.er = 0)
    (HU : Hid (∀ W, Below w.heap.size w W → Calls Try.prog 118 #[.slice ao n cap, .int .i64 (at_ : Nat)] W (RetT W s)))
    (HD : Hid (∀ W, Below w.heap.size w W → Calls Try.prog 119 #[.slice ao n cap, .int .i64 (s.en : Nat)] W fun e w' => e = .returned (.bool true) ∧ w' = W))
    (t : TokS) (HV : Hid (∀ W, Below w.heap.size w W → Calls Try.prog 118 #[.slice ao n cap, .int .i64 ((s.en : Int) + 1)] W (RetT W t))) (hse : (s.en : Int) ≤ 2048) (ht : t.er = 0) (hk : s.k = 1) (hk2 : t.k = 1) (hle : s.b ≤ t.b) (hlt : t.b < 256) : Calls Try.prog 100 #[.slice ao n cap, .int .i64 (at_ : Nat)] w (RetU w (rg s.b (t.b + 1 - s.b)) t.en 0) := by
  go_enter Try.func100, Try.ntmps100
  go_wp2_with fail
  refine (HU.out _ (bel2 _ _ _)).mono ?_
  rintro e w1 ⟨_, _, a0, a1, a2, a3, nt, l, m, lz, at', en, er, rfl, hs, hb⟩
  obtain ⟨rfl, rfl, -, -, -, -, -, -, rfl, rfl⟩ := hs
  rw [he, hk]
  clear HU
  have uq := uq_start w w1 1 s.b a0 a1 a2 a3 nt l m lz at' s.en 0 hb
  simp only [tokV, markV]
  go_wp2_with fail
  refine (HD.out _ uq.bel).mono ?_
  rintro e w2 ⟨rfl, rfl⟩
  generalize ((w1.alloc (.cells #[.int .i64 1, .int .u8 (s.b : Nat), .int .u64 (a0 : Nat), .int .u64 (a1 : Nat), .int .u64 (a2 : Nat), .int .u64 (a3 : Nat), .bool nt, .int .i64 l, .int .i64 m, .bool lz, .int .i64 (at' : Nat)] 42)).alloc (.cells #[.int .i64 (s.en : Nat), .int .i64 0] 96)) = W at *
  have hS := uq.lt
  generalize w1.heap.size = S at *
  clear hb HD
  obtain ⟨⟨b0, b1, b2, b3, b4, b5, b6, b7, b8, b9, b10⟩, g0, g1, g2, g3, g4, g5, g6, g7, g8, g9, g10⟩ := uq.k2.eleven
  obtain ⟨⟨r0, r1⟩, s0, s1⟩ := uq.k3.two
  have n1 : S + 1 ≠ w.heap.size := by omega
  have n2 : S + 1 ≠ w.heap.size + 1 := by omega
  have n3 : S ≠ w.heap.size := by omega
  have n4 : S ≠ w.heap.size + 1 := by omega
  have HQ : Hid (Uq w S 1 s.b a0 a1 a2 a3 nt l m lz at' s.en 0 W) := uq
  clear uq
  have i5 : (s.en : Int) + 1 < 9223372036854775808 := by omega
  go_wp2_with fail
  refine (HV.out _ HQ.out.bel).mono ?_
  rintro e w2 ⟨_, _, a0', a1', a2', a3', nt', l', m', lz', at'', en', er', rfl, hs', hb2⟩
  obtain ⟨rfl, rfl, -, -, -, -, -, -, rfl, rfl⟩ := hs'
  rw [ht, hk2]
  have u2 := HQ.out.next hb2
  obtain ⟨⟨t0, t1⟩, v0, v1⟩ := u2.k3.two
  have l2 : S + 1 < w2.heap.size := u2.k3.lt
  have n5 : w2.heap.size ≠ S + 1 := by omega
  have n6 : S + 1 ≠ w2.heap.size := by omega
  have u3 := (u2.k3.alloc (.cells #[.int .i64 1, .int .u8 (t.b : Nat), .int .u64 (a0' : Nat), .int .u64 (a1' : Nat), .int .u64 (a2' : Nat), .int .u64 (a3' : Nat), .bool nt', .int .i64 l', .int .i64 m', .bool lz', .int .i64 (at'' : Nat)] 42))
  have v3 := u3.put2 (.int .i64 (t.en : Nat)) (.int .i64 0)
  have vk0 := (u2.k0.alloc (.cells #[.int .i64 1, .int .u8 (t.b : Nat), .int .u64 (a0' : Nat), .int .u64 (a1' : Nat), .int .u64 (a2' : Nat), .int .u64 (a3' : Nat), .bool nt', .int .i64 l', .int .i64 m', .bool lz', .int .i64 (at'' : Nat)] 42)).others2 (k := S + 1) (by omega) (.int .i64 (t.en : Nat)) (.int .i64 0)
  have vk1 := (u2.k1.alloc (.cells #[.int .i64 1, .int .u8 (t.b : Nat), .int .u64 (a0' : Nat), .int .u64 (a1' : Nat), .int .u64 (a2' : Nat), .int .u64 (a3' : Nat), .bool nt', .int .i64 l', .int .i64 m', .bool lz', .int .i64 (at'' : Nat)] 42)).others2 (k := S + 1) (by omega) (.int .i64 (t.en : Nat)) (.int .i64 0)
  have v2 := (u2.k2.alloc (.cells #[.int .i64 1, .int .u8 (t.b : Nat), .int .u64 (a0' : Nat), .int .u64 (a1' : Nat), .int .u64 (a2' : Nat), .int .u64 (a3' : Nat), .bool nt', .int .i64 l', .int .i64 m', .bool lz', .int .i64 (at'' : Nat)] 42)).others2 (k := S + 1) (by omega) (.int .i64 (t.en : Nat)) (.int .i64 0)
  have v4 := (Cl.new w2 42 [.int .i64 1, .int .u8 (t.b : Nat), .int .u64 (a0' : Nat), .int .u64 (a1' : Nat), .int .u64 (a2' : Nat), .int .u64 (a3' : Nat), .bool nt', .int .i64 l', .int .i64 m', .bool lz', .int .i64 (at'' : Nat)]).others2 (k := S + 1) (by omega) (.int .i64 (t.en : Nat)) (.int .i64 0)
  have vb := below_put2 (b := S + 1) (u2.bel.alloc u2.bel.size (.cells #[.int .i64 1, .int .u8 (t.b : Nat), .int .u64 (a0' : Nat), .int .u64 (a1' : Nat), .int .u64 (a2' : Nat), .int .u64 (a3' : Nat), .bool nt', .int .i64 l', .int .i64 m', .bool lz', .int .i64 (at'' : Nat)] 42)) (by omega) (.int .i64 (t.en : Nat)) (.int .i64 0)
  obtain ⟨⟨p0, p1⟩, q0, q1⟩ := u3.two
  simp only [put2] at v3 vk0 vk1 vb v2 v4
  clear u3 t0 t1 v0 v1 u2 l2 hb2 HV he ht hk hk2 n1 n2 n3 n4 i5 hse b0 b1 b2 b3 b4 b5 b6 b7 b8 b9 b10 g0 g1 g2 g3 g4 g5 g6 g7 g8 g9 g10 r0 r1 s0 s1
  obtain ⟨⟨y0, y1, -, -, -, -, -, -, -, -, -⟩, -⟩ := v2.eleven
  obtain ⟨⟨y2, y3, -, -, -, -, -, -, -, -, -⟩, -⟩ := v4.eleven
  clear v2 v4
  have HV3 : Hid (Cl _ _ _ _) := v3
  have HV0 : Hid (Cl _ _ _ _) := vk0
  have HV1 : Hid (Cl _ _ _ _) := vk1
  have HVb : Hid (Below _ _ _) := vb
  have HS : Hid (w.heap.size + 2 ≤ S) := hS
  clear v3 vk0 vk1 vb hS
  simp only [tokV, markV]
  go_wp2_with fail
  have HG : Hid (∀ W, Calls Try.prog 121 #[.int .u8 (s.b : Nat), .int .u8 (t.b : Nat)] W (RetC W (rg s.b (t.b + 1 - s.b)))) := fun W => range_any s.b t.b W (by omega) hlt
  generalize (((w2.alloc (.cells #[.int .i64 1, .int .u8 (t.b : Nat), .int .u64 (a0' : Nat), .int .u64 (a1' : Nat), .int .u64 (a2' : Nat), .int .u64 (a3' : Nat), .bool nt', .int .i64 l', .int .i64 m', .bool lz', .int .i64 (at'' : Nat)] 42)).setCell ⟨S + 1, 0, none⟩ (.int .i64 (t.en : Nat))).setCell ⟨S + 1, 1, none⟩ (.int .i64 0)) = W3 at *
  generalize rg s.b (t.b + 1 - s.b) = P at *
  obtain ⟨⟨r0, r1⟩, s0, s1⟩ := HV3.out.two
  go_region_with (first | (
    go_at_call 121
    refine (HG.out _).mono ?_
    rintro e w4 ⟨⟨x0, x1, x2, x3, rfl, h4⟩, hb4⟩
    have hS := HS.out
    have n1 : S + 1 ≠ w.heap.size := by omega
    have n2 : S + 1 ≠ w.heap.size + 1 := by omega
    have z3 := HV3.out.drew.below hb4
    have z0 := HV0.out.drew.below hb4
    have z1 := HV1.out.drew.below hb4
    have zb : Below w.heap.size w w4 := HVb.out.drew.trans (hb4.mono HVb.out.drew.size)
    have H4 : Hid (C4 P x0 x1 x2 x3) := h4
    obtain ⟨⟨t0, t1⟩, v0, v1⟩ := z3.two
    obtain ⟨⟨c0, c1, c2, c3⟩, h0, h1, h2, h3⟩ := z0.four
    obtain ⟨⟨d0, d1⟩, e0, e1⟩ := z1.two
    have F := ((z0.putc (.int .u64 (x0 : Nat)) (.int .u64 (x1 : Nat)) (.int .u64 (x2 : Nat)) (.int .u64 (x3 : Nat))).others2 (k := w.heap.size + 1) (by omega) (.int .i64 (t.en : Nat)) (.int .i64 0)).four.1
    have G := ((z1.others4 (k := w.heap.size) (by omega) (.int .u64 (x0 : Nat)) (.int .u64 (x1 : Nat)) (.int .u64 (x2 : Nat)) (.int .u64 (x3 : Nat))).put2 (.int .i64 (t.en : Nat)) (.int .i64 0)).two.1
    have hB4 := below_put2 (b := w.heap.size + 1) (below_putc (b := w.heap.size) zb (Nat.le_refl _) (.int .u64 (x0 : Nat)) (.int .u64 (x1 : Nat)) (.int .u64 (x2 : Nat)) (.int .u64 (x3 : Nat))) (by omega) (.int .i64 (t.en : Nat)) (.int .i64 0)
    simp only [put2, putc] at F G
    obtain ⟨F0, F1, F2, F3⟩ := F
    obtain ⟨G0, G1⟩ := G
    have HF : Hid (Below w.heap.size w _) := hB4
    clear hB4 z0 z1 z3 zb h4 hb4 hS))
  all_goals go_wp2
  all_goals exact bodyPost_ret (v := .tuple #[.agg #[.int .u64 (x0 : Nat), .int .u64 (x1 : Nat), .int .u64 (x2 : Nat), .int .u64 (x3 : Nat)], markV t.en 0]) (by simp [results, Try.results100, go_sem, markV, F0, F1, F2, F3, G0, G1]) rfl ⟨x0, x1, x2, x3, rfl, H4.out, HF.out⟩
end Go.Proofs.Ytlmmiicibjfcdaa
