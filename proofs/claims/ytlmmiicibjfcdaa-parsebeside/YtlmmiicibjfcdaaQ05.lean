/- token: unit, and the ways of word that hand on: the walks. -/
import Derived.Test.YtlmmiicibjfcdaaQ04
namespace Go.Proofs.Ytlmmiicibjfcdaa
open Go.RowKit
/-- A token and a mark of which R says what they are; nothing old has turned. -/
def RetG (w : World) (R : Int → Nat → Nat → Nat → Nat → Nat → Bool → Int → Int → Bool → Nat → Nat → Int → Prop) (e : Ending) (w' : World) : Prop :=
  ∃ k b a0 a1 a2 a3 nt l m lz at' en er, e = .returned (.tuple #[tokV k b a0 a1 a2 a3 nt l m lz at', markV en er]) ∧ R k b a0 a1 a2 a3 nt l m lz at' en er ∧ Below w.heap.size w w'
theorem bel2 (w : World) (o p : Obj) : Below w.heap.size w ((w.alloc o).alloc p) := ((Below.refl _ _).alloc (Nat.le_refl _) _).alloc (by simp) _
theorem dl0 (w : World) (o : Obj) : Cl ((w.alloc (.cells #[.int .i64 0, .int .u8 0, .int .u64 0, .int .u64 0, .int .u64 0, .int .u64 0, .bool false, .int .i64 0, .int .i64 0, .bool false, .int .i64 0] 42)).alloc o) w.heap.size 42 [.int .i64 0, .int .u8 0, .int .u64 0, .int .u64 0, .int .u64 0, .int .u64 0, .bool false, .int .i64 0, .int .i64 0, .bool false, .int .i64 0] := (Cl.new w 42 _).alloc _
theorem dl1 (w : World) (o : Obj) : Cl ((w.alloc o).alloc (.cells #[.int .i64 0, .int .i64 0] 96)) (w.heap.size + 1) 96 [.int .i64 0, .int .i64 0] := by
  have := Cl.new (w.alloc o) 96 [.int .i64 0, .int .i64 0]
  simpa using this
set_option maxRecDepth 10000 in
set_option maxHeartbeats 4000000 in
theorem unit_esc (ao : Option Addr) (n cap at_ : Nat) (z : Nat → Nat) (w : World) (hr : Rd w ao n z) (ha : at_ < n) (hq : z at_ = 92) (R : Int → Nat → Nat → Nat → Nat → Nat → Bool → Int → Int → Bool → Nat → Nat → Int → Prop) (hE : ∀ W, Below w.heap.size w W → Calls Try.prog 84 #[.slice ao n cap, .int .i64 (at_ : Nat)] W (RetG W R)) : Calls Try.prog 118 #[.slice ao n cap, .int .i64 (at_ : Nat)] w (RetG w R) := by
  obtain ⟨bb, off, rfl, hbb, hc⟩ := hr.at_ (by omega)
  have t0 := hc at_ ha
  have i1 : (at_ : Int) < (n : Int) := by omega
  have t1 : ((w.alloc (.cells #[.int .i64 0, .int .u8 0, .int .u64 0, .int .u64 0, .int .u64 0, .int .u64 0, .bool false, .int .i64 0, .int .i64 0, .bool false, .int .i64 0] 42)).alloc (.cells #[.int .i64 0, .int .i64 0] 96)).cell? ⟨bb, off + at_, none⟩ = some (.int .u8 (z at_ : Nat)) := by rw [(bel2 w _ _).cell (p := ⟨bb, off + at_, none⟩) hbb]; exact t0
  have HE : Hid (∀ W, Below w.heap.size w W → Calls Try.prog 84 #[.slice (some ⟨bb, off, none⟩) n cap, .int .i64 (at_ : Nat)] W (RetG W R)) := hE
  clear hc t0 hr hE
  rw [hq] at t1
  clear hq
  go_enter Try.func118, Try.ntmps118
  go_wp2_with fail
  refine (HE.out _ (bel2 _ _ _)).mono ?_
  rintro e w1 ⟨k, b, a0, a1, a2, a3, nt, l, m, lz, at', en, er, rfl, hR, hb⟩
  have k0 := (dl0 w (.cells #[.int .i64 0, .int .i64 0] 96)).below hb
  have k1 := (dl1 w (.cells #[.int .i64 0, .int .u8 0, .int .u64 0, .int .u64 0, .int .u64 0, .int .u64 0, .bool false, .int .i64 0, .int .i64 0, .bool false, .int .i64 0] 42)).below hb
  have hB1 : Below w.heap.size w w1 := (bel2 w _ _).trans (hb.mono (by simp; omega))
  clear hb t1
  have F := ((k0.put11 (.int .i64 k) (.int .u8 (b : Nat)) (.int .u64 (a0 : Nat)) (.int .u64 (a1 : Nat)) (.int .u64 (a2 : Nat)) (.int .u64 (a3 : Nat)) (.bool nt) (.int .i64 l) (.int .i64 m) (.bool lz) (.int .i64 (at' : Nat))).others2 (k := w.heap.size + 1) (by omega) (.int .i64 (en : Nat)) (.int .i64 er)).eleven.1
  have G := ((k1.others11 (k := w.heap.size) (by omega) (.int .i64 k) (.int .u8 (b : Nat)) (.int .u64 (a0 : Nat)) (.int .u64 (a1 : Nat)) (.int .u64 (a2 : Nat)) (.int .u64 (a3 : Nat)) (.bool nt) (.int .i64 l) (.int .i64 m) (.bool lz) (.int .i64 (at' : Nat))).put2 (.int .i64 (en : Nat)) (.int .i64 er)).two.1
  have hB4 := below_put2 (b := w.heap.size + 1) (below_put11 (b := w.heap.size) hB1 (Nat.le_refl _) (.int .i64 k) (.int .u8 (b : Nat)) (.int .u64 (a0 : Nat)) (.int .u64 (a1 : Nat)) (.int .u64 (a2 : Nat)) (.int .u64 (a3 : Nat)) (.bool nt) (.int .i64 l) (.int .i64 m) (.bool lz) (.int .i64 (at' : Nat))) (by omega) (.int .i64 (en : Nat)) (.int .i64 er)
  simp only [put2, put11] at F G
  obtain ⟨F0, F1, F2, F3, F4, F5, F6, F7, F8, F9, F10⟩ := F
  obtain ⟨G0, G1⟩ := G
  have HF : Hid (Below w.heap.size w _) := hB4
  have HR : Hid (R k b a0 a1 a2 a3 nt l m lz at' en er) := hR
  obtain ⟨⟨b0, b1, b2, b3, b4, b5, b6, b7, b8, b9, b10⟩, g0, g1, g2, g3, g4, g5, g6, g7, g8, g9, g10⟩ := k0.eleven
  obtain ⟨⟨r0, r1⟩, s0, s1⟩ := k1.two
  clear k0 k1 hB1 hB4 hR
  simp only [tokV, markV]
  go_wp2
  exact bodyPost_ret (v := .tuple #[tokV k b a0 a1 a2 a3 nt l m lz at', markV en er]) (by simp [results, Try.results118, go_sem, tokV, markV, F0, F1, F2, F3, F4, F5, F6, F7, F8, F9, F10, G0, G1]) rfl ⟨k, b, a0, a1, a2, a3, nt, l, m, lz, at', en, er, rfl, HR.out, HF.out⟩
set_option maxRecDepth 10000 in
set_option maxHeartbeats 4000000 in
theorem word_esc (ao : Option Addr) (n cap at_ : Nat) (z : Nat → Nat) (w : World) (hr : Rd w ao n z) (ha : at_ < n) (hq : z at_ = 92) (R : Int → Nat → Nat → Nat → Nat → Nat → Bool → Int → Int → Bool → Nat → Nat → Int → Prop) (hE : ∀ W, Below w.heap.size w W → Calls Try.prog 84 #[.slice ao n cap, .int .i64 (at_ : Nat)] W (RetG W R)) : Calls Try.prog 77 #[.slice ao n cap, .int .i64 (at_ : Nat)] w (RetG w R) := by
  obtain ⟨bb, off, rfl, hbb, hc⟩ := hr.at_ (by omega)
  have t0 := hc at_ ha
  have i1 : (at_ : Int) < (n : Int) := by omega
  have t1 : ((w.alloc (.cells #[.int .i64 0, .int .u8 0, .int .u64 0, .int .u64 0, .int .u64 0, .int .u64 0, .bool false, .int .i64 0, .int .i64 0, .bool false, .int .i64 0] 42)).alloc (.cells #[.int .i64 0, .int .i64 0] 96)).cell? ⟨bb, off + at_, none⟩ = some (.int .u8 (z at_ : Nat)) := by rw [(bel2 w _ _).cell (p := ⟨bb, off + at_, none⟩) hbb]; exact t0
  have HE : Hid (∀ W, Below w.heap.size w W → Calls Try.prog 84 #[.slice (some ⟨bb, off, none⟩) n cap, .int .i64 (at_ : Nat)] W (RetG W R)) := hE
  clear hc t0 hr hE
  rw [hq] at t1
  clear hq
  go_enter Try.func77, Try.ntmps77
  go_wp2_with fail
  refine (HE.out _ (bel2 _ _ _)).mono ?_
  rintro e w1 ⟨k, b, a0, a1, a2, a3, nt, l, m, lz, at', en, er, rfl, hR, hb⟩
  have k0 := (dl0 w (.cells #[.int .i64 0, .int .i64 0] 96)).below hb
  have k1 := (dl1 w (.cells #[.int .i64 0, .int .u8 0, .int .u64 0, .int .u64 0, .int .u64 0, .int .u64 0, .bool false, .int .i64 0, .int .i64 0, .bool false, .int .i64 0] 42)).below hb
  have hB1 : Below w.heap.size w w1 := (bel2 w _ _).trans (hb.mono (by simp; omega))
  clear hb t1
  have F := ((k0.put11 (.int .i64 k) (.int .u8 (b : Nat)) (.int .u64 (a0 : Nat)) (.int .u64 (a1 : Nat)) (.int .u64 (a2 : Nat)) (.int .u64 (a3 : Nat)) (.bool nt) (.int .i64 l) (.int .i64 m) (.bool lz) (.int .i64 (at' : Nat))).others2 (k := w.heap.size + 1) (by omega) (.int .i64 (en : Nat)) (.int .i64 er)).eleven.1
  have G := ((k1.others11 (k := w.heap.size) (by omega) (.int .i64 k) (.int .u8 (b : Nat)) (.int .u64 (a0 : Nat)) (.int .u64 (a1 : Nat)) (.int .u64 (a2 : Nat)) (.int .u64 (a3 : Nat)) (.bool nt) (.int .i64 l) (.int .i64 m) (.bool lz) (.int .i64 (at' : Nat))).put2 (.int .i64 (en : Nat)) (.int .i64 er)).two.1
  have hB4 := below_put2 (b := w.heap.size + 1) (below_put11 (b := w.heap.size) hB1 (Nat.le_refl _) (.int .i64 k) (.int .u8 (b : Nat)) (.int .u64 (a0 : Nat)) (.int .u64 (a1 : Nat)) (.int .u64 (a2 : Nat)) (.int .u64 (a3 : Nat)) (.bool nt) (.int .i64 l) (.int .i64 m) (.bool lz) (.int .i64 (at' : Nat))) (by omega) (.int .i64 (en : Nat)) (.int .i64 er)
  simp only [put2, put11] at F G
  obtain ⟨F0, F1, F2, F3, F4, F5, F6, F7, F8, F9, F10⟩ := F
  obtain ⟨G0, G1⟩ := G
  have HF : Hid (Below w.heap.size w _) := hB4
  have HR : Hid (R k b a0 a1 a2 a3 nt l m lz at' en er) := hR
  obtain ⟨⟨b0, b1, b2, b3, b4, b5, b6, b7, b8, b9, b10⟩, g0, g1, g2, g3, g4, g5, g6, g7, g8, g9, g10⟩ := k0.eleven
  obtain ⟨⟨r0, r1⟩, s0, s1⟩ := k1.two
  clear k0 k1 hB1 hB4 hR
  simp only [tokV, markV]
  go_wp2
  exact bodyPost_ret (v := .tuple #[tokV k b a0 a1 a2 a3 nt l m lz at', markV en er]) (by simp [results, Try.results77, go_sem, tokV, markV, F0, F1, F2, F3, F4, F5, F6, F7, F8, F9, F10, G0, G1]) rfl ⟨k, b, a0, a1, a2, a3, nt, l, m, lz, at', en, er, rfl, HR.out, HF.out⟩
set_option maxRecDepth 10000 in
set_option maxHeartbeats 4000000 in
theorem word_bracket (ao : Option Addr) (n cap at_ : Nat) (z : Nat → Nat) (w : World) (hr : Rd w ao n z) (ha : at_ < n) (hq : z at_ = 91) (R : Int → Nat → Nat → Nat → Nat → Nat → Bool → Int → Int → Bool → Nat → Nat → Int → Prop) (hE : ∀ W, Below w.heap.size w W → Calls Try.prog 85 #[.slice ao n cap, .int .i64 (at_ : Nat)] W (RetG W R)) : Calls Try.prog 77 #[.slice ao n cap, .int .i64 (at_ : Nat)] w (RetG w R) := by
  obtain ⟨bb, off, rfl, hbb, hc⟩ := hr.at_ (by omega)
  have t0 := hc at_ ha
  have i1 : (at_ : Int) < (n : Int) := by omega
  have t1 : ((w.alloc (.cells #[.int .i64 0, .int .u8 0, .int .u64 0, .int .u64 0, .int .u64 0, .int .u64 0, .bool false, .int .i64 0, .int .i64 0, .bool false, .int .i64 0] 42)).alloc (.cells #[.int .i64 0, .int .i64 0] 96)).cell? ⟨bb, off + at_, none⟩ = some (.int .u8 (z at_ : Nat)) := by rw [(bel2 w _ _).cell (p := ⟨bb, off + at_, none⟩) hbb]; exact t0
  have HE : Hid (∀ W, Below w.heap.size w W → Calls Try.prog 85 #[.slice (some ⟨bb, off, none⟩) n cap, .int .i64 (at_ : Nat)] W (RetG W R)) := hE
  clear hc t0 hr hE
  rw [hq] at t1
  clear hq
  go_enter Try.func77, Try.ntmps77
  go_wp2_with fail
  refine (HE.out _ (bel2 _ _ _)).mono ?_
  rintro e w1 ⟨k, b, a0, a1, a2, a3, nt, l, m, lz, at', en, er, rfl, hR, hb⟩
  have k0 := (dl0 w (.cells #[.int .i64 0, .int .i64 0] 96)).below hb
  have k1 := (dl1 w (.cells #[.int .i64 0, .int .u8 0, .int .u64 0, .int .u64 0, .int .u64 0, .int .u64 0, .bool false, .int .i64 0, .int .i64 0, .bool false, .int .i64 0] 42)).below hb
  have hB1 : Below w.heap.size w w1 := (bel2 w _ _).trans (hb.mono (by simp; omega))
  clear hb t1
  have F := ((k0.put11 (.int .i64 k) (.int .u8 (b : Nat)) (.int .u64 (a0 : Nat)) (.int .u64 (a1 : Nat)) (.int .u64 (a2 : Nat)) (.int .u64 (a3 : Nat)) (.bool nt) (.int .i64 l) (.int .i64 m) (.bool lz) (.int .i64 (at' : Nat))).others2 (k := w.heap.size + 1) (by omega) (.int .i64 (en : Nat)) (.int .i64 er)).eleven.1
  have G := ((k1.others11 (k := w.heap.size) (by omega) (.int .i64 k) (.int .u8 (b : Nat)) (.int .u64 (a0 : Nat)) (.int .u64 (a1 : Nat)) (.int .u64 (a2 : Nat)) (.int .u64 (a3 : Nat)) (.bool nt) (.int .i64 l) (.int .i64 m) (.bool lz) (.int .i64 (at' : Nat))).put2 (.int .i64 (en : Nat)) (.int .i64 er)).two.1
  have hB4 := below_put2 (b := w.heap.size + 1) (below_put11 (b := w.heap.size) hB1 (Nat.le_refl _) (.int .i64 k) (.int .u8 (b : Nat)) (.int .u64 (a0 : Nat)) (.int .u64 (a1 : Nat)) (.int .u64 (a2 : Nat)) (.int .u64 (a3 : Nat)) (.bool nt) (.int .i64 l) (.int .i64 m) (.bool lz) (.int .i64 (at' : Nat))) (by omega) (.int .i64 (en : Nat)) (.int .i64 er)
  simp only [put2, put11] at F G
  obtain ⟨F0, F1, F2, F3, F4, F5, F6, F7, F8, F9, F10⟩ := F
  obtain ⟨G0, G1⟩ := G
  have HF : Hid (Below w.heap.size w _) := hB4
  have HR : Hid (R k b a0 a1 a2 a3 nt l m lz at' en er) := hR
  obtain ⟨⟨b0, b1, b2, b3, b4, b5, b6, b7, b8, b9, b10⟩, g0, g1, g2, g3, g4, g5, g6, g7, g8, g9, g10⟩ := k0.eleven
  obtain ⟨⟨r0, r1⟩, s0, s1⟩ := k1.two
  clear k0 k1 hB1 hB4 hR
  simp only [tokV, markV]
  go_wp2
  exact bodyPost_ret (v := .tuple #[tokV k b a0 a1 a2 a3 nt l m lz at', markV en er]) (by simp [results, Try.results77, go_sem, tokV, markV, F0, F1, F2, F3, F4, F5, F6, F7, F8, F9, F10, G0, G1]) rfl ⟨k, b, a0, a1, a2, a3, nt, l, m, lz, at', en, er, rfl, HR.out, HF.out⟩
set_option maxRecDepth 10000 in
set_option maxHeartbeats 4000000 in
theorem word_open (ao : Option Addr) (n cap at_ : Nat) (z : Nat → Nat) (w : World) (hr : Rd w ao n z) (ha : at_ < n) (hq : z at_ = 40) (R : Int → Nat → Nat → Nat → Nat → Nat → Bool → Int → Int → Bool → Nat → Nat → Int → Prop) (hE : ∀ W, Below w.heap.size w W → Calls Try.prog 86 #[.slice ao n cap, .int .i64 (at_ : Nat)] W (RetG W R)) : Calls Try.prog 77 #[.slice ao n cap, .int .i64 (at_ : Nat)] w (RetG w R) := by
  obtain ⟨bb, off, rfl, hbb, hc⟩ := hr.at_ (by omega)
  have t0 := hc at_ ha
  have i1 : (at_ : Int) < (n : Int) := by omega
  have t1 : ((w.alloc (.cells #[.int .i64 0, .int .u8 0, .int .u64 0, .int .u64 0, .int .u64 0, .int .u64 0, .bool false, .int .i64 0, .int .i64 0, .bool false, .int .i64 0] 42)).alloc (.cells #[.int .i64 0, .int .i64 0] 96)).cell? ⟨bb, off + at_, none⟩ = some (.int .u8 (z at_ : Nat)) := by rw [(bel2 w _ _).cell (p := ⟨bb, off + at_, none⟩) hbb]; exact t0
  have HE : Hid (∀ W, Below w.heap.size w W → Calls Try.prog 86 #[.slice (some ⟨bb, off, none⟩) n cap, .int .i64 (at_ : Nat)] W (RetG W R)) := hE
  clear hc t0 hr hE
  rw [hq] at t1
  clear hq
  go_enter Try.func77, Try.ntmps77
  go_wp2_with fail
  refine (HE.out _ (bel2 _ _ _)).mono ?_
  rintro e w1 ⟨k, b, a0, a1, a2, a3, nt, l, m, lz, at', en, er, rfl, hR, hb⟩
  have k0 := (dl0 w (.cells #[.int .i64 0, .int .i64 0] 96)).below hb
  have k1 := (dl1 w (.cells #[.int .i64 0, .int .u8 0, .int .u64 0, .int .u64 0, .int .u64 0, .int .u64 0, .bool false, .int .i64 0, .int .i64 0, .bool false, .int .i64 0] 42)).below hb
  have hB1 : Below w.heap.size w w1 := (bel2 w _ _).trans (hb.mono (by simp; omega))
  clear hb t1
  have F := ((k0.put11 (.int .i64 k) (.int .u8 (b : Nat)) (.int .u64 (a0 : Nat)) (.int .u64 (a1 : Nat)) (.int .u64 (a2 : Nat)) (.int .u64 (a3 : Nat)) (.bool nt) (.int .i64 l) (.int .i64 m) (.bool lz) (.int .i64 (at' : Nat))).others2 (k := w.heap.size + 1) (by omega) (.int .i64 (en : Nat)) (.int .i64 er)).eleven.1
  have G := ((k1.others11 (k := w.heap.size) (by omega) (.int .i64 k) (.int .u8 (b : Nat)) (.int .u64 (a0 : Nat)) (.int .u64 (a1 : Nat)) (.int .u64 (a2 : Nat)) (.int .u64 (a3 : Nat)) (.bool nt) (.int .i64 l) (.int .i64 m) (.bool lz) (.int .i64 (at' : Nat))).put2 (.int .i64 (en : Nat)) (.int .i64 er)).two.1
  have hB4 := below_put2 (b := w.heap.size + 1) (below_put11 (b := w.heap.size) hB1 (Nat.le_refl _) (.int .i64 k) (.int .u8 (b : Nat)) (.int .u64 (a0 : Nat)) (.int .u64 (a1 : Nat)) (.int .u64 (a2 : Nat)) (.int .u64 (a3 : Nat)) (.bool nt) (.int .i64 l) (.int .i64 m) (.bool lz) (.int .i64 (at' : Nat))) (by omega) (.int .i64 (en : Nat)) (.int .i64 er)
  simp only [put2, put11] at F G
  obtain ⟨F0, F1, F2, F3, F4, F5, F6, F7, F8, F9, F10⟩ := F
  obtain ⟨G0, G1⟩ := G
  have HF : Hid (Below w.heap.size w _) := hB4
  have HR : Hid (R k b a0 a1 a2 a3 nt l m lz at' en er) := hR
  obtain ⟨⟨b0, b1, b2, b3, b4, b5, b6, b7, b8, b9, b10⟩, g0, g1, g2, g3, g4, g5, g6, g7, g8, g9, g10⟩ := k0.eleven
  obtain ⟨⟨r0, r1⟩, s0, s1⟩ := k1.two
  clear k0 k1 hB1 hB4 hR
  simp only [tokV, markV]
  go_wp2
  exact bodyPost_ret (v := .tuple #[tokV k b a0 a1 a2 a3 nt l m lz at', markV en er]) (by simp [results, Try.results77, go_sem, tokV, markV, F0, F1, F2, F3, F4, F5, F6, F7, F8, F9, F10, G0, G1]) rfl ⟨k, b, a0, a1, a2, a3, nt, l, m, lz, at', en, er, rfl, HR.out, HF.out⟩
set_option maxRecDepth 10000 in
set_option maxHeartbeats 4000000 in
theorem word_rep42 (ao : Option Addr) (n cap at_ : Nat) (z : Nat → Nat) (w : World) (hr : Rd w ao n z) (ha : at_ < n) (hq : z at_ = 42) (R : Int → Nat → Nat → Nat → Nat → Nat → Bool → Int → Int → Bool → Nat → Nat → Int → Prop) (hE : ∀ W, Below w.heap.size w W → Calls Try.prog 87 #[.slice ao n cap, .int .i64 (at_ : Nat)] W (RetG W R)) : Calls Try.prog 77 #[.slice ao n cap, .int .i64 (at_ : Nat)] w (RetG w R) := by
  obtain ⟨bb, off, rfl, hbb, hc⟩ := hr.at_ (by omega)
  have t0 := hc at_ ha
  have i1 : (at_ : Int) < (n : Int) := by omega
  have t1 : ((w.alloc (.cells #[.int .i64 0, .int .u8 0, .int .u64 0, .int .u64 0, .int .u64 0, .int .u64 0, .bool false, .int .i64 0, .int .i64 0, .bool false, .int .i64 0] 42)).alloc (.cells #[.int .i64 0, .int .i64 0] 96)).cell? ⟨bb, off + at_, none⟩ = some (.int .u8 (z at_ : Nat)) := by rw [(bel2 w _ _).cell (p := ⟨bb, off + at_, none⟩) hbb]; exact t0
  have HE : Hid (∀ W, Below w.heap.size w W → Calls Try.prog 87 #[.slice (some ⟨bb, off, none⟩) n cap, .int .i64 (at_ : Nat)] W (RetG W R)) := hE
  clear hc t0 hr hE
  rw [hq] at t1
  clear hq
  go_enter Try.func77, Try.ntmps77
  go_wp2_with fail
  refine (HE.out _ (bel2 _ _ _)).mono ?_
  rintro e w1 ⟨k, b, a0, a1, a2, a3, nt, l, m, lz, at', en, er, rfl, hR, hb⟩
  have k0 := (dl0 w (.cells #[.int .i64 0, .int .i64 0] 96)).below hb
  have k1 := (dl1 w (.cells #[.int .i64 0, .int .u8 0, .int .u64 0, .int .u64 0, .int .u64 0, .int .u64 0, .bool false, .int .i64 0, .int .i64 0, .bool false, .int .i64 0] 42)).below hb
  have hB1 : Below w.heap.size w w1 := (bel2 w _ _).trans (hb.mono (by simp; omega))
  clear hb t1
  have F := ((k0.put11 (.int .i64 k) (.int .u8 (b : Nat)) (.int .u64 (a0 : Nat)) (.int .u64 (a1 : Nat)) (.int .u64 (a2 : Nat)) (.int .u64 (a3 : Nat)) (.bool nt) (.int .i64 l) (.int .i64 m) (.bool lz) (.int .i64 (at' : Nat))).others2 (k := w.heap.size + 1) (by omega) (.int .i64 (en : Nat)) (.int .i64 er)).eleven.1
  have G := ((k1.others11 (k := w.heap.size) (by omega) (.int .i64 k) (.int .u8 (b : Nat)) (.int .u64 (a0 : Nat)) (.int .u64 (a1 : Nat)) (.int .u64 (a2 : Nat)) (.int .u64 (a3 : Nat)) (.bool nt) (.int .i64 l) (.int .i64 m) (.bool lz) (.int .i64 (at' : Nat))).put2 (.int .i64 (en : Nat)) (.int .i64 er)).two.1
  have hB4 := below_put2 (b := w.heap.size + 1) (below_put11 (b := w.heap.size) hB1 (Nat.le_refl _) (.int .i64 k) (.int .u8 (b : Nat)) (.int .u64 (a0 : Nat)) (.int .u64 (a1 : Nat)) (.int .u64 (a2 : Nat)) (.int .u64 (a3 : Nat)) (.bool nt) (.int .i64 l) (.int .i64 m) (.bool lz) (.int .i64 (at' : Nat))) (by omega) (.int .i64 (en : Nat)) (.int .i64 er)
  simp only [put2, put11] at F G
  obtain ⟨F0, F1, F2, F3, F4, F5, F6, F7, F8, F9, F10⟩ := F
  obtain ⟨G0, G1⟩ := G
  have HF : Hid (Below w.heap.size w _) := hB4
  have HR : Hid (R k b a0 a1 a2 a3 nt l m lz at' en er) := hR
  obtain ⟨⟨b0, b1, b2, b3, b4, b5, b6, b7, b8, b9, b10⟩, g0, g1, g2, g3, g4, g5, g6, g7, g8, g9, g10⟩ := k0.eleven
  obtain ⟨⟨r0, r1⟩, s0, s1⟩ := k1.two
  clear k0 k1 hB1 hB4 hR
  simp only [tokV, markV]
  go_wp2
  exact bodyPost_ret (v := .tuple #[tokV k b a0 a1 a2 a3 nt l m lz at', markV en er]) (by simp [results, Try.results77, go_sem, tokV, markV, F0, F1, F2, F3, F4, F5, F6, F7, F8, F9, F10, G0, G1]) rfl ⟨k, b, a0, a1, a2, a3, nt, l, m, lz, at', en, er, rfl, HR.out, HF.out⟩
set_option maxRecDepth 10000 in
set_option maxHeartbeats 4000000 in
theorem word_rep43 (ao : Option Addr) (n cap at_ : Nat) (z : Nat → Nat) (w : World) (hr : Rd w ao n z) (ha : at_ < n) (hq : z at_ = 43) (R : Int → Nat → Nat → Nat → Nat → Nat → Bool → Int → Int → Bool → Nat → Nat → Int → Prop) (hE : ∀ W, Below w.heap.size w W → Calls Try.prog 87 #[.slice ao n cap, .int .i64 (at_ : Nat)] W (RetG W R)) : Calls Try.prog 77 #[.slice ao n cap, .int .i64 (at_ : Nat)] w (RetG w R) := by
  obtain ⟨bb, off, rfl, hbb, hc⟩ := hr.at_ (by omega)
  have t0 := hc at_ ha
  have i1 : (at_ : Int) < (n : Int) := by omega
  have t1 : ((w.alloc (.cells #[.int .i64 0, .int .u8 0, .int .u64 0, .int .u64 0, .int .u64 0, .int .u64 0, .bool false, .int .i64 0, .int .i64 0, .bool false, .int .i64 0] 42)).alloc (.cells #[.int .i64 0, .int .i64 0] 96)).cell? ⟨bb, off + at_, none⟩ = some (.int .u8 (z at_ : Nat)) := by rw [(bel2 w _ _).cell (p := ⟨bb, off + at_, none⟩) hbb]; exact t0
  have HE : Hid (∀ W, Below w.heap.size w W → Calls Try.prog 87 #[.slice (some ⟨bb, off, none⟩) n cap, .int .i64 (at_ : Nat)] W (RetG W R)) := hE
  clear hc t0 hr hE
  rw [hq] at t1
  clear hq
  go_enter Try.func77, Try.ntmps77
  go_wp2_with fail
  refine (HE.out _ (bel2 _ _ _)).mono ?_
  rintro e w1 ⟨k, b, a0, a1, a2, a3, nt, l, m, lz, at', en, er, rfl, hR, hb⟩
  have k0 := (dl0 w (.cells #[.int .i64 0, .int .i64 0] 96)).below hb
  have k1 := (dl1 w (.cells #[.int .i64 0, .int .u8 0, .int .u64 0, .int .u64 0, .int .u64 0, .int .u64 0, .bool false, .int .i64 0, .int .i64 0, .bool false, .int .i64 0] 42)).below hb
  have hB1 : Below w.heap.size w w1 := (bel2 w _ _).trans (hb.mono (by simp; omega))
  clear hb t1
  have F := ((k0.put11 (.int .i64 k) (.int .u8 (b : Nat)) (.int .u64 (a0 : Nat)) (.int .u64 (a1 : Nat)) (.int .u64 (a2 : Nat)) (.int .u64 (a3 : Nat)) (.bool nt) (.int .i64 l) (.int .i64 m) (.bool lz) (.int .i64 (at' : Nat))).others2 (k := w.heap.size + 1) (by omega) (.int .i64 (en : Nat)) (.int .i64 er)).eleven.1
  have G := ((k1.others11 (k := w.heap.size) (by omega) (.int .i64 k) (.int .u8 (b : Nat)) (.int .u64 (a0 : Nat)) (.int .u64 (a1 : Nat)) (.int .u64 (a2 : Nat)) (.int .u64 (a3 : Nat)) (.bool nt) (.int .i64 l) (.int .i64 m) (.bool lz) (.int .i64 (at' : Nat))).put2 (.int .i64 (en : Nat)) (.int .i64 er)).two.1
  have hB4 := below_put2 (b := w.heap.size + 1) (below_put11 (b := w.heap.size) hB1 (Nat.le_refl _) (.int .i64 k) (.int .u8 (b : Nat)) (.int .u64 (a0 : Nat)) (.int .u64 (a1 : Nat)) (.int .u64 (a2 : Nat)) (.int .u64 (a3 : Nat)) (.bool nt) (.int .i64 l) (.int .i64 m) (.bool lz) (.int .i64 (at' : Nat))) (by omega) (.int .i64 (en : Nat)) (.int .i64 er)
  simp only [put2, put11] at F G
  obtain ⟨F0, F1, F2, F3, F4, F5, F6, F7, F8, F9, F10⟩ := F
  obtain ⟨G0, G1⟩ := G
  have HF : Hid (Below w.heap.size w _) := hB4
  have HR : Hid (R k b a0 a1 a2 a3 nt l m lz at' en er) := hR
  obtain ⟨⟨b0, b1, b2, b3, b4, b5, b6, b7, b8, b9, b10⟩, g0, g1, g2, g3, g4, g5, g6, g7, g8, g9, g10⟩ := k0.eleven
  obtain ⟨⟨r0, r1⟩, s0, s1⟩ := k1.two
  clear k0 k1 hB1 hB4 hR
  simp only [tokV, markV]
  go_wp2
  exact bodyPost_ret (v := .tuple #[tokV k b a0 a1 a2 a3 nt l m lz at', markV en er]) (by simp [results, Try.results77, go_sem, tokV, markV, F0, F1, F2, F3, F4, F5, F6, F7, F8, F9, F10, G0, G1]) rfl ⟨k, b, a0, a1, a2, a3, nt, l, m, lz, at', en, er, rfl, HR.out, HF.out⟩
set_option maxRecDepth 10000 in
set_option maxHeartbeats 4000000 in
theorem word_rep63 (ao : Option Addr) (n cap at_ : Nat) (z : Nat → Nat) (w : World) (hr : Rd w ao n z) (ha : at_ < n) (hq : z at_ = 63) (R : Int → Nat → Nat → Nat → Nat → Nat → Bool → Int → Int → Bool → Nat → Nat → Int → Prop) (hE : ∀ W, Below w.heap.size w W → Calls Try.prog 87 #[.slice ao n cap, .int .i64 (at_ : Nat)] W (RetG W R)) : Calls Try.prog 77 #[.slice ao n cap, .int .i64 (at_ : Nat)] w (RetG w R) := by
  obtain ⟨bb, off, rfl, hbb, hc⟩ := hr.at_ (by omega)
  have t0 := hc at_ ha
  have i1 : (at_ : Int) < (n : Int) := by omega
  have t1 : ((w.alloc (.cells #[.int .i64 0, .int .u8 0, .int .u64 0, .int .u64 0, .int .u64 0, .int .u64 0, .bool false, .int .i64 0, .int .i64 0, .bool false, .int .i64 0] 42)).alloc (.cells #[.int .i64 0, .int .i64 0] 96)).cell? ⟨bb, off + at_, none⟩ = some (.int .u8 (z at_ : Nat)) := by rw [(bel2 w _ _).cell (p := ⟨bb, off + at_, none⟩) hbb]; exact t0
  have HE : Hid (∀ W, Below w.heap.size w W → Calls Try.prog 87 #[.slice (some ⟨bb, off, none⟩) n cap, .int .i64 (at_ : Nat)] W (RetG W R)) := hE
  clear hc t0 hr hE
  rw [hq] at t1
  clear hq
  go_enter Try.func77, Try.ntmps77
  go_wp2_with fail
  refine (HE.out _ (bel2 _ _ _)).mono ?_
  rintro e w1 ⟨k, b, a0, a1, a2, a3, nt, l, m, lz, at', en, er, rfl, hR, hb⟩
  have k0 := (dl0 w (.cells #[.int .i64 0, .int .i64 0] 96)).below hb
  have k1 := (dl1 w (.cells #[.int .i64 0, .int .u8 0, .int .u64 0, .int .u64 0, .int .u64 0, .int .u64 0, .bool false, .int .i64 0, .int .i64 0, .bool false, .int .i64 0] 42)).below hb
  have hB1 : Below w.heap.size w w1 := (bel2 w _ _).trans (hb.mono (by simp; omega))
  clear hb t1
  have F := ((k0.put11 (.int .i64 k) (.int .u8 (b : Nat)) (.int .u64 (a0 : Nat)) (.int .u64 (a1 : Nat)) (.int .u64 (a2 : Nat)) (.int .u64 (a3 : Nat)) (.bool nt) (.int .i64 l) (.int .i64 m) (.bool lz) (.int .i64 (at' : Nat))).others2 (k := w.heap.size + 1) (by omega) (.int .i64 (en : Nat)) (.int .i64 er)).eleven.1
  have G := ((k1.others11 (k := w.heap.size) (by omega) (.int .i64 k) (.int .u8 (b : Nat)) (.int .u64 (a0 : Nat)) (.int .u64 (a1 : Nat)) (.int .u64 (a2 : Nat)) (.int .u64 (a3 : Nat)) (.bool nt) (.int .i64 l) (.int .i64 m) (.bool lz) (.int .i64 (at' : Nat))).put2 (.int .i64 (en : Nat)) (.int .i64 er)).two.1
  have hB4 := below_put2 (b := w.heap.size + 1) (below_put11 (b := w.heap.size) hB1 (Nat.le_refl _) (.int .i64 k) (.int .u8 (b : Nat)) (.int .u64 (a0 : Nat)) (.int .u64 (a1 : Nat)) (.int .u64 (a2 : Nat)) (.int .u64 (a3 : Nat)) (.bool nt) (.int .i64 l) (.int .i64 m) (.bool lz) (.int .i64 (at' : Nat))) (by omega) (.int .i64 (en : Nat)) (.int .i64 er)
  simp only [put2, put11] at F G
  obtain ⟨F0, F1, F2, F3, F4, F5, F6, F7, F8, F9, F10⟩ := F
  obtain ⟨G0, G1⟩ := G
  have HF : Hid (Below w.heap.size w _) := hB4
  have HR : Hid (R k b a0 a1 a2 a3 nt l m lz at' en er) := hR
  obtain ⟨⟨b0, b1, b2, b3, b4, b5, b6, b7, b8, b9, b10⟩, g0, g1, g2, g3, g4, g5, g6, g7, g8, g9, g10⟩ := k0.eleven
  obtain ⟨⟨r0, r1⟩, s0, s1⟩ := k1.two
  clear k0 k1 hB1 hB4 hR
  simp only [tokV, markV]
  go_wp2
  exact bodyPost_ret (v := .tuple #[tokV k b a0 a1 a2 a3 nt l m lz at', markV en er]) (by simp [results, Try.results77, go_sem, tokV, markV, F0, F1, F2, F3, F4, F5, F6, F7, F8, F9, F10, G0, G1]) rfl ⟨k, b, a0, a1, a2, a3, nt, l, m, lz, at', en, er, rfl, HR.out, HF.out⟩
set_option maxRecDepth 10000 in
set_option maxHeartbeats 4000000 in
theorem word_rep123 (ao : Option Addr) (n cap at_ : Nat) (z : Nat → Nat) (w : World) (hr : Rd w ao n z) (ha : at_ < n) (hq : z at_ = 123) (R : Int → Nat → Nat → Nat → Nat → Nat → Bool → Int → Int → Bool → Nat → Nat → Int → Prop) (hE : ∀ W, Below w.heap.size w W → Calls Try.prog 87 #[.slice ao n cap, .int .i64 (at_ : Nat)] W (RetG W R)) : Calls Try.prog 77 #[.slice ao n cap, .int .i64 (at_ : Nat)] w (RetG w R) := by
  obtain ⟨bb, off, rfl, hbb, hc⟩ := hr.at_ (by omega)
  have t0 := hc at_ ha
  have i1 : (at_ : Int) < (n : Int) := by omega
  have t1 : ((w.alloc (.cells #[.int .i64 0, .int .u8 0, .int .u64 0, .int .u64 0, .int .u64 0, .int .u64 0, .bool false, .int .i64 0, .int .i64 0, .bool false, .int .i64 0] 42)).alloc (.cells #[.int .i64 0, .int .i64 0] 96)).cell? ⟨bb, off + at_, none⟩ = some (.int .u8 (z at_ : Nat)) := by rw [(bel2 w _ _).cell (p := ⟨bb, off + at_, none⟩) hbb]; exact t0
  have HE : Hid (∀ W, Below w.heap.size w W → Calls Try.prog 87 #[.slice (some ⟨bb, off, none⟩) n cap, .int .i64 (at_ : Nat)] W (RetG W R)) := hE
  clear hc t0 hr hE
  rw [hq] at t1
  clear hq
  go_enter Try.func77, Try.ntmps77
  go_wp2_with fail
  refine (HE.out _ (bel2 _ _ _)).mono ?_
  rintro e w1 ⟨k, b, a0, a1, a2, a3, nt, l, m, lz, at', en, er, rfl, hR, hb⟩
  have k0 := (dl0 w (.cells #[.int .i64 0, .int .i64 0] 96)).below hb
  have k1 := (dl1 w (.cells #[.int .i64 0, .int .u8 0, .int .u64 0, .int .u64 0, .int .u64 0, .int .u64 0, .bool false, .int .i64 0, .int .i64 0, .bool false, .int .i64 0] 42)).below hb
  have hB1 : Below w.heap.size w w1 := (bel2 w _ _).trans (hb.mono (by simp; omega))
  clear hb t1
  have F := ((k0.put11 (.int .i64 k) (.int .u8 (b : Nat)) (.int .u64 (a0 : Nat)) (.int .u64 (a1 : Nat)) (.int .u64 (a2 : Nat)) (.int .u64 (a3 : Nat)) (.bool nt) (.int .i64 l) (.int .i64 m) (.bool lz) (.int .i64 (at' : Nat))).others2 (k := w.heap.size + 1) (by omega) (.int .i64 (en : Nat)) (.int .i64 er)).eleven.1
  have G := ((k1.others11 (k := w.heap.size) (by omega) (.int .i64 k) (.int .u8 (b : Nat)) (.int .u64 (a0 : Nat)) (.int .u64 (a1 : Nat)) (.int .u64 (a2 : Nat)) (.int .u64 (a3 : Nat)) (.bool nt) (.int .i64 l) (.int .i64 m) (.bool lz) (.int .i64 (at' : Nat))).put2 (.int .i64 (en : Nat)) (.int .i64 er)).two.1
  have hB4 := below_put2 (b := w.heap.size + 1) (below_put11 (b := w.heap.size) hB1 (Nat.le_refl _) (.int .i64 k) (.int .u8 (b : Nat)) (.int .u64 (a0 : Nat)) (.int .u64 (a1 : Nat)) (.int .u64 (a2 : Nat)) (.int .u64 (a3 : Nat)) (.bool nt) (.int .i64 l) (.int .i64 m) (.bool lz) (.int .i64 (at' : Nat))) (by omega) (.int .i64 (en : Nat)) (.int .i64 er)
  simp only [put2, put11] at F G
  obtain ⟨F0, F1, F2, F3, F4, F5, F6, F7, F8, F9, F10⟩ := F
  obtain ⟨G0, G1⟩ := G
  have HF : Hid (Below w.heap.size w _) := hB4
  have HR : Hid (R k b a0 a1 a2 a3 nt l m lz at' en er) := hR
  obtain ⟨⟨b0, b1, b2, b3, b4, b5, b6, b7, b8, b9, b10⟩, g0, g1, g2, g3, g4, g5, g6, g7, g8, g9, g10⟩ := k0.eleven
  obtain ⟨⟨r0, r1⟩, s0, s1⟩ := k1.two
  clear k0 k1 hB1 hB4 hR
  simp only [tokV, markV]
  go_wp2
  exact bodyPost_ret (v := .tuple #[tokV k b a0 a1 a2 a3 nt l m lz at', markV en er]) (by simp [results, Try.results77, go_sem, tokV, markV, F0, F1, F2, F3, F4, F5, F6, F7, F8, F9, F10, G0, G1]) rfl ⟨k, b, a0, a1, a2, a3, nt, l, m, lz, at', en, er, rfl, HR.out, HF.out⟩
set_option maxRecDepth 10000 in
set_option maxHeartbeats 4000000 in
theorem word_sign (ao : Option Addr) (n cap at_ : Nat) (z : Nat → Nat) (w : World) (hr : Rd w ao n z) (ha : at_ < n) (q : Nat) (hq : z at_ = q) (hne : q ≠ 92 ∧ q ≠ 91 ∧ q ≠ 40 ∧ q ≠ 42 ∧ q ≠ 43 ∧ q ≠ 63 ∧ q ≠ 123) (R : Int → Nat → Nat → Nat → Nat → Nat → Bool → Int → Int → Bool → Nat → Nat → Int → Prop) (hE : ∀ W, Below w.heap.size w W → Calls Try.prog 88 #[.slice ao n cap, .int .i64 (at_ : Nat)] W (RetG W R)) : Calls Try.prog 77 #[.slice ao n cap, .int .i64 (at_ : Nat)] w (RetG w R) := by
  obtain ⟨bb, off, rfl, hbb, hc⟩ := hr.at_ (by omega)
  have t0 := hc at_ ha
  have i1 : (at_ : Int) < (n : Int) := by omega
  have t1 : ((w.alloc (.cells #[.int .i64 0, .int .u8 0, .int .u64 0, .int .u64 0, .int .u64 0, .int .u64 0, .bool false, .int .i64 0, .int .i64 0, .bool false, .int .i64 0] 42)).alloc (.cells #[.int .i64 0, .int .i64 0] 96)).cell? ⟨bb, off + at_, none⟩ = some (.int .u8 (z at_ : Nat)) := by rw [(bel2 w _ _).cell (p := ⟨bb, off + at_, none⟩) hbb]; exact t0
  have HE : Hid (∀ W, Below w.heap.size w W → Calls Try.prog 88 #[.slice (some ⟨bb, off, none⟩) n cap, .int .i64 (at_ : Nat)] W (RetG W R)) := hE
  clear hc t0 hr hE
  rw [hq] at t1
  have e92 : ((q : Int) == 92) = false := by simp; omega
  have e91 : ((q : Int) == 91) = false := by simp; omega
  have e40 : ((q : Int) == 40) = false := by simp; omega
  have e42 : ((q : Int) == 42) = false := by simp; omega
  have e43 : ((q : Int) == 43) = false := by simp; omega
  have e63 : ((q : Int) == 63) = false := by simp; omega
  have e123 : ((q : Int) == 123) = false := by simp; omega
  clear hq hne
  go_enter Try.func77, Try.ntmps77
  go_wp2_with fail
  refine (HE.out _ (bel2 _ _ _)).mono ?_
  rintro e w1 ⟨k, b, a0, a1, a2, a3, nt, l, m, lz, at', en, er, rfl, hR, hb⟩
  have k0 := (dl0 w (.cells #[.int .i64 0, .int .i64 0] 96)).below hb
  have k1 := (dl1 w (.cells #[.int .i64 0, .int .u8 0, .int .u64 0, .int .u64 0, .int .u64 0, .int .u64 0, .bool false, .int .i64 0, .int .i64 0, .bool false, .int .i64 0] 42)).below hb
  have hB1 : Below w.heap.size w w1 := (bel2 w _ _).trans (hb.mono (by simp; omega))
  clear hb t1
  have F := ((k0.put11 (.int .i64 k) (.int .u8 (b : Nat)) (.int .u64 (a0 : Nat)) (.int .u64 (a1 : Nat)) (.int .u64 (a2 : Nat)) (.int .u64 (a3 : Nat)) (.bool nt) (.int .i64 l) (.int .i64 m) (.bool lz) (.int .i64 (at' : Nat))).others2 (k := w.heap.size + 1) (by omega) (.int .i64 (en : Nat)) (.int .i64 er)).eleven.1
  have G := ((k1.others11 (k := w.heap.size) (by omega) (.int .i64 k) (.int .u8 (b : Nat)) (.int .u64 (a0 : Nat)) (.int .u64 (a1 : Nat)) (.int .u64 (a2 : Nat)) (.int .u64 (a3 : Nat)) (.bool nt) (.int .i64 l) (.int .i64 m) (.bool lz) (.int .i64 (at' : Nat))).put2 (.int .i64 (en : Nat)) (.int .i64 er)).two.1
  have hB4 := below_put2 (b := w.heap.size + 1) (below_put11 (b := w.heap.size) hB1 (Nat.le_refl _) (.int .i64 k) (.int .u8 (b : Nat)) (.int .u64 (a0 : Nat)) (.int .u64 (a1 : Nat)) (.int .u64 (a2 : Nat)) (.int .u64 (a3 : Nat)) (.bool nt) (.int .i64 l) (.int .i64 m) (.bool lz) (.int .i64 (at' : Nat))) (by omega) (.int .i64 (en : Nat)) (.int .i64 er)
  simp only [put2, put11] at F G
  obtain ⟨F0, F1, F2, F3, F4, F5, F6, F7, F8, F9, F10⟩ := F
  obtain ⟨G0, G1⟩ := G
  have HF : Hid (Below w.heap.size w _) := hB4
  have HR : Hid (R k b a0 a1 a2 a3 nt l m lz at' en er) := hR
  obtain ⟨⟨b0, b1, b2, b3, b4, b5, b6, b7, b8, b9, b10⟩, g0, g1, g2, g3, g4, g5, g6, g7, g8, g9, g10⟩ := k0.eleven
  obtain ⟨⟨r0, r1⟩, s0, s1⟩ := k1.two
  clear k0 k1 hB1 hB4 hR
  simp only [tokV, markV]
  go_wp2
  exact bodyPost_ret (v := .tuple #[tokV k b a0 a1 a2 a3 nt l m lz at', markV en er]) (by simp [results, Try.results77, go_sem, tokV, markV, F0, F1, F2, F3, F4, F5, F6, F7, F8, F9, F10, G0, G1]) rfl ⟨k, b, a0, a1, a2, a3, nt, l, m, lz, at', en, er, rfl, HR.out, HF.out⟩
set_option maxRecDepth 10000 in
set_option maxHeartbeats 4000000 in
theorem unit_byte (ao : Option Addr) (n cap at_ : Nat) (z : Nat → Nat) (w : World) (hr : Rd w ao n z) (hn : (n : Int) ≤ 1024) (ha : at_ < n) (q : Nat) (hq : z at_ = q) (hne : q ≠ 92) : Calls Try.prog 118 #[.slice ao n cap, .int .i64 (at_ : Nat)] w (RetK w (tokV 1 q 0 0 0 0 false 0 0 false at_) (markV (at_ + 1) 0)) := by
  obtain ⟨bb, off, rfl, hbb, hc⟩ := hr.at_ (by omega)
  have t0 := hc at_ ha
  have i1 : (at_ : Int) < (n : Int) := by omega
  have t1 : ((w.alloc (.cells #[.int .i64 0, .int .u8 0, .int .u64 0, .int .u64 0, .int .u64 0, .int .u64 0, .bool false, .int .i64 0, .int .i64 0, .bool false, .int .i64 0] 42)).alloc (.cells #[.int .i64 0, .int .i64 0] 96)).cell? ⟨bb, off + at_, none⟩ = some (.int .u8 (z at_ : Nat)) := by rw [(bel2 w _ _).cell (p := ⟨bb, off + at_, none⟩) hbb]; exact t0
  rw [hq] at t1
  have e92 : ((q : Int) == 92) = false := by simp; omega
  clear hc t0 hr hq hne
  go_enter Try.func118, Try.ntmps118
  go_wp2
  exact bodyPost_ret (v := .tuple #[tokV 1 q 0 0 0 0 false 0 0 false at_, markV (at_ + 1) 0]) (by simp [results, Try.results118, go_sem, tokV, markV]) rfl ⟨rfl, bel2 _ _ _⟩
end Go.Proofs.Ytlmmiicibjfcdaa
