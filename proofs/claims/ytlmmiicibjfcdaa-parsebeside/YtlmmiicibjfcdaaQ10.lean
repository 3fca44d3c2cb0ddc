/- token: bracket: its ends. token: bracket as a whole; word. A range over a function whose iterator writes two blocks of its own, the first that it lays. Tokens as values. -/
import Derived.Test.YtlmmiicibjfcdaaQ09
import Derived.RangeFuncNested
import Derived.RangeFuncBound
import Derived.RangeFuncCalls
import Derived.RangeFuncLeaves
import Derived.RangeFuncBox
import Derived.Test.YtlmmiicibjfcdaaQ07
namespace Go.Proofs.Ytlmmiicibjfcdaa
open Go.RowKit
theorem cells_zero {W : World} {N : Nat} (V0 : Cl W N 42 [.int .i64 0, .int .u8 0, .int .u64 0, .int .u64 0, .int .u64 0, .int .u64 0, .bool false, .int .i64 0, .int .i64 0, .bool false, .int .i64 0]) (V1 : Cl W (N + 1) 96 [.int .i64 0, .int .i64 0]) (y0 y1 y2 y3 y4 y5 y6 y7 y8 y9 y10 y11 y12 : Value) :
    Cl (put2 (put11 W N y0 y1 y2 y3 y4 y5 y6 y7 y8 y9 y10) (N + 1) y11 y12) N 42 [y0, y1, y2, y3, y4, y5, y6, y7, y8, y9, y10] ∧ Cl (put2 (put11 W N y0 y1 y2 y3 y4 y5 y6 y7 y8 y9 y10) (N + 1) y11 y12) (N + 1) 96 [y11, y12] :=
  ⟨(V0.put11 y0 y1 y2 y3 y4 y5 y6 y7 y8 y9 y10).others2 (k := N + 1) (by omega) y11 y12, (V1.others11 (k := N) (by omega) y0 y1 y2 y3 y4 y5 y6 y7 y8 y9 y10).put2 y11 y12⟩
set_option maxRecDepth 20000 in
set_option maxHeartbeats 4000000 in
theorem br_wrong {K : Nat → Act → World → Prop} {R : Ending → World → Prop} (ao : Option Addr) (n cap at_ N : Nat) (u : Nat → Value) {w W : World} {nt : Bool} {c0 c1 c2 c3 i p0 p1 p2 p3 : Nat} (hq : Bq w N at_ nt c0 c1 c2 c3 i 0 p0 p1 p2 p3 W)
    (hR : Hid (∀ W', Below N w W' → R (.returned (.tuple #[tokV 0 0 0 0 0 0 false 0 0 false 0, markV at_ 41])) W')) : Code.wp Try.prog (labelIn Try.f85 0) (jumps K (bodyPost Try.prog Try.f85 R)) ⟨fr11 ao n cap at_ N u, []⟩ W := by
  obtain ⟨Q0, hQ0⟩ : ∃ Q0, Q0 = bodyPost Try.prog Try.f85 R := ⟨_, rfl⟩
  rw [← hQ0]
  have HQ0 : Hid (Q0 = bodyPost Try.prog Try.f85 R) := hQ0
  clear hQ0
  unfold fr11
  conv => arg 2; whnf
  obtain ⟨⟨b0, b1, b2, b3, b4, b5, b6, b7, b8, b9, b10⟩, g0, g1, g2, g3, g4, g5, g6, g7, g8, g9, g10⟩ := hq.k0.eleven
  obtain ⟨⟨d0, d1⟩, e0, e1⟩ := hq.k1.two
  obtain ⟨F, G⟩ := cells_zero hq.k0 hq.k1 (.int .i64 0) (.int .u8 0) (.int .u64 0) (.int .u64 0) (.int .u64 0) (.int .u64 0) (.bool false) (.int .i64 0) (.int .i64 0) (.bool false) (.int .i64 0) (.int .i64 (at_ : Nat)) (.int .i64 41)
  have hB4 := (below_put2 (b := N + 1) (below_put11 (b := N) hq.bel (Nat.le_refl _) (.int .i64 0) (.int .u8 0) (.int .u64 0) (.int .u64 0) (.int .u64 0) (.int .u64 0) (.bool false) (.int .i64 0) (.int .i64 0) (.bool false) (.int .i64 0)) (by omega) (.int .i64 (at_ : Nat)) (.int .i64 41))
  replace F := F.eleven.1
  replace G := G.two.1
  simp only [put2, put11] at F G hB4
  obtain ⟨F0, F1, F2, F3, F4, F5, F6, F7, F8, F9, F10⟩ := F
  obtain ⟨G0, G1⟩ := G
  have HF : Hid (Below N w _) := hB4
  clear hB4 hq
  go_wp2
  rw [jumps_ret, HQ0.out]
  exact bodyPost_ret (v := .tuple #[tokV 0 0 0 0 0 0 false 0 0 false 0, markV at_ 41]) (by simp [results, Try.results85, go_sem, tokV, markV, F0, F1, F2, F3, F4, F5, F6, F7, F8, F9, F10, G0, G1]) rfl (hR.out _ HF.out)
set_option maxRecDepth 20000 in
set_option maxHeartbeats 4000000 in
theorem br_end {K : Nat → Act → World → Prop} {R : Ending → World → Prop} (ao : Option Addr) (n cap at_ N : Nat) (u : Nat → Value) {w W : World} {nt : Bool} {c0 c1 c2 c3 i p0 p1 p2 p3 : Nat} (hq : Bq w N at_ nt c0 c1 c2 c3 i 0 p0 p1 p2 p3 W) (hi : (i : Int) ≤ 1024)
    (HM : Hid (Calls Try.prog 63 #[.agg #[.int .u64 (c0 : Nat), .int .u64 (c1 : Nat), .int .u64 (c2 : Nat), .int .u64 (c3 : Nat)], .bool nt] W (RetB W true)))
    (hR : Hid (∀ W', Below N w W' → R (.returned (.tuple #[tokV 2 0 c0 c1 c2 c3 nt 0 0 false at_, markV (i + 1) 0])) W')) : Code.wp Try.prog (labelIn Try.f85 2) (jumps K (bodyPost Try.prog Try.f85 R)) ⟨fr11 ao n cap at_ N u, []⟩ W := by
  obtain ⟨Q0, hQ0⟩ : ∃ Q0, Q0 = bodyPost Try.prog Try.f85 R := ⟨_, rfl⟩
  rw [← hQ0]
  have HQ0 : Hid (Q0 = bodyPost Try.prog Try.f85 R) := hQ0
  clear hQ0
  unfold fr11
  conv => arg 2; whnf
  obtain ⟨⟨b0, b1, b2, b3, b4, b5, b6, b7, b8, b9, b10⟩, g0, g1, g2, g3, g4, g5, g6, g7, g8, g9, g10⟩ := hq.k2.eleven
  have HQ : Hid (Bq w N at_ nt c0 c1 c2 c3 i 0 p0 p1 p2 p3 W) := hq
  clear hq
  go_wp2_with fail
  refine HM.out.mono ?_
  rintro e w1 ⟨rfl, hb⟩
  have q1 := HQ.out.next hb
  clear hb HM HQ b0 b1 b2 b3 b4 b5 b6 b7 b8 b9 b10 g0 g1 g2 g3 g4 g5 g6 g7 g8 g9 g10
  go_wp2_with fail
  have i6 : IntKind.i64.wrap ((i : Int) + 1) = (i : Int) + 1 := IntWalk.i64_in _ (by omega)
  clear hi
  obtain ⟨⟨b0, b1, b2, b3, b4, b5, b6, b7, b8, b9, b10⟩, g0, g1, g2, g3, g4, g5, g6, g7, g8, g9, g10⟩ := q1.k0.eleven
  obtain ⟨⟨d0, d1⟩, e0, e1⟩ := q1.k1.two
  obtain ⟨⟨o0, o1⟩, l0, l1⟩ := q1.k3.two
  obtain ⟨⟨m0, m1, m2, m3, m4, m5, m6, m7, m8, m9, m10⟩, -⟩ := q1.k2.eleven
  obtain ⟨F, G⟩ := cells_zero q1.k0 q1.k1 (.int .i64 2) (.int .u8 0) (.int .u64 (c0 : Nat)) (.int .u64 (c1 : Nat)) (.int .u64 (c2 : Nat)) (.int .u64 (c3 : Nat)) (.bool nt) (.int .i64 0) (.int .i64 0) (.bool false) (.int .i64 (at_ : Nat)) (.int .i64 ((i : Int) + 1)) (.int .i64 0)
  have hB4 := (below_put2 (b := N + 1) (below_put11 (b := N) q1.bel (Nat.le_refl _) (.int .i64 2) (.int .u8 0) (.int .u64 (c0 : Nat)) (.int .u64 (c1 : Nat)) (.int .u64 (c2 : Nat)) (.int .u64 (c3 : Nat)) (.bool nt) (.int .i64 0) (.int .i64 0) (.bool false) (.int .i64 (at_ : Nat))) (by omega) (.int .i64 ((i : Int) + 1)) (.int .i64 0)).drew
  replace F := F.drew.eleven.1
  replace G := G.drew.two.1
  simp only [put2, put11] at F G hB4
  obtain ⟨F0, F1, F2, F3, F4, F5, F6, F7, F8, F9, F10⟩ := F
  obtain ⟨G0, G1⟩ := G
  have HF : Hid (Below N w _) := hB4
  clear hB4 q1
  refine wp_then_only ?_
  go_region_with (fail)
  all_goals go_wp2
  all_goals rw [jumps_ret, HQ0.out]
  all_goals exact bodyPost_ret (v := .tuple #[tokV 2 0 c0 c1 c2 c3 nt 0 0 false at_, markV (i + 1) 0]) (by simp [results, Try.results85, go_sem, tokV, markV, F0, F1, F2, F3, F4, F5, F6, F7, F8, F9, F10, G0, G1]) rfl (hR.out _ HF.out)
set_option maxRecDepth 20000 in
set_option maxHeartbeats 4000000 in
theorem br_none {K : Nat → Act → World → Prop} {R : Ending → World → Prop} (ao : Option Addr) (n cap at_ N : Nat) (u : Nat → Value) {w W : World} {nt : Bool} {c0 c1 c2 c3 i p0 p1 p2 p3 : Nat} (hq : Bq w N at_ nt c0 c1 c2 c3 i 0 p0 p1 p2 p3 W)
    (HM : Hid (Calls Try.prog 63 #[.agg #[.int .u64 (c0 : Nat), .int .u64 (c1 : Nat), .int .u64 (c2 : Nat), .int .u64 (c3 : Nat)], .bool nt] W (RetB W false)))
    (hR : Hid (∀ W', Below N w W' → R (.returned (.tuple #[tokV 0 0 0 0 0 0 false 0 0 false 0, markV at_ 41])) W')) : Code.wp Try.prog (labelIn Try.f85 2) (jumps K (bodyPost Try.prog Try.f85 R)) ⟨fr11 ao n cap at_ N u, []⟩ W := by
  obtain ⟨Q0, hQ0⟩ : ∃ Q0, Q0 = bodyPost Try.prog Try.f85 R := ⟨_, rfl⟩
  rw [← hQ0]
  have HQ0 : Hid (Q0 = bodyPost Try.prog Try.f85 R) := hQ0
  clear hQ0
  unfold fr11
  conv => arg 2; whnf
  obtain ⟨⟨b0, b1, b2, b3, b4, b5, b6, b7, b8, b9, b10⟩, g0, g1, g2, g3, g4, g5, g6, g7, g8, g9, g10⟩ := hq.k2.eleven
  have HQ : Hid (Bq w N at_ nt c0 c1 c2 c3 i 0 p0 p1 p2 p3 W) := hq
  clear hq
  go_wp2_with fail
  refine HM.out.mono ?_
  rintro e w1 ⟨rfl, hb⟩
  have hq := HQ.out.next hb
  clear hb HM HQ b0 b1 b2 b3 b4 b5 b6 b7 b8 b9 b10 g0 g1 g2 g3 g4 g5 g6 g7 g8 g9 g10
  go_wp2_with fail
  go_step3
  obtain ⟨⟨b0, b1, b2, b3, b4, b5, b6, b7, b8, b9, b10⟩, g0, g1, g2, g3, g4, g5, g6, g7, g8, g9, g10⟩ := hq.k0.eleven
  obtain ⟨⟨d0, d1⟩, e0, e1⟩ := hq.k1.two
  obtain ⟨F, G⟩ := cells_zero hq.k0 hq.k1 (.int .i64 0) (.int .u8 0) (.int .u64 0) (.int .u64 0) (.int .u64 0) (.int .u64 0) (.bool false) (.int .i64 0) (.int .i64 0) (.bool false) (.int .i64 0) (.int .i64 (at_ : Nat)) (.int .i64 41)
  have hB4 := (below_put2 (b := N + 1) (below_put11 (b := N) hq.bel (Nat.le_refl _) (.int .i64 0) (.int .u8 0) (.int .u64 0) (.int .u64 0) (.int .u64 0) (.int .u64 0) (.bool false) (.int .i64 0) (.int .i64 0) (.bool false) (.int .i64 0)) (by omega) (.int .i64 (at_ : Nat)) (.int .i64 41))
  replace F := F.eleven.1
  replace G := G.two.1
  simp only [put2, put11] at F G hB4
  obtain ⟨F0, F1, F2, F3, F4, F5, F6, F7, F8, F9, F10⟩ := F
  obtain ⟨G0, G1⟩ := G
  have HF : Hid (Below N w _) := hB4
  clear hB4 hq
  go_wp2
  rw [jumps_ret, HQ0.out]
  exact bodyPost_ret (v := .tuple #[tokV 0 0 0 0 0 0 false 0 0 false 0, markV at_ 41]) (by simp [results, Try.results85, go_sem, tokV, markV, F0, F1, F2, F3, F4, F5, F6, F7, F8, F9, F10, G0, G1]) rfl (hR.out _ HF.out)
end Go.Proofs.Ytlmmiicibjfcdaa
namespace Go.Proofs.Ytlmmiicibjfcdaa
open Go.RowKit
/-- What holds at bracket's jumps. -/
def BrJ (w : World) (ao : Option Addr) (n cap at_ : Nat) (nt : Bool) (z : Nat → Nat) (S : TokS) (l m : Nat) (a : Act) (W : World) : Prop :=
  (l = 1 ∧ ∃ u f i P c0 c1 c2 c3 p0 p1 p2 p3, m = f + 2 ∧ a = ⟨fr11 ao n cap at_ w.heap.size u, []⟩ ∧ Bq w w.heap.size at_ nt c0 c1 c2 c3 i 0 p0 p1 p2 p3 W ∧ C4 P c0 c1 c2 c3 ∧ i ≤ n ∧ n - i < f ∧ brkG z n at_ nt f i P = S)
  ∨ (l = 2 ∧ ∃ u i P c0 c1 c2 c3 p0 p1 p2 p3, m = 1 ∧ a = ⟨fr11 ao n cap at_ w.heap.size u, []⟩ ∧ Bq w w.heap.size at_ nt c0 c1 c2 c3 i 0 p0 p1 p2 p3 W ∧ C4 P c0 c1 c2 c3 ∧ i < n ∧ S = if mayP P nt = true then .cls P nt at_ (i + 1) else .bad at_ 41)
  ∨ (l = 0 ∧ ∃ u i c0 c1 c2 c3 p0 p1 p2 p3, m = 0 ∧ a = ⟨fr11 ao n cap at_ w.heap.size u, []⟩ ∧ Bq w w.heap.size at_ nt c0 c1 c2 c3 i 0 p0 p1 p2 p3 W ∧ S = .bad at_ 41)
theorem ret_bad {w : World} {S : TokS} {en : Nat} {er : Int} (h : S = .bad en er) : Hid (∀ W', Below w.heap.size w W' → RetT w S (.returned (.tuple #[tokV 0 0 0 0 0 0 false 0 0 false 0, markV en er])) W') := fun W' hb => by
  rw [h]; exact retT_k (.bad en er) rfl ⟨rfl, hb⟩
theorem br_pass (ao : Option Addr) (n cap at_ : Nat) (z : Nat → Nat) (w : World) (hr : Rd w ao n z) (hn : (n : Int) ≤ 1024) (ha : at_ < n) {W : World} {nt : Bool} {S : TokS} {u : Nat → Value} {f i : Nat} {P : Nat → Bool} {c0 c1 c2 c3 p0 p1 p2 p3 : Nat}
    (hq : Bq w w.heap.size at_ nt c0 c1 c2 c3 i 0 p0 p1 p2 p3 W) (h4 : C4 P c0 c1 c2 c3) (hi : i ≤ n) (hf : n - i < f) (hS : brkG z n at_ nt f i P = S) :
    Code.wp Try.prog (labelIn Try.f85 1) (jumps (fun l' a' w' => ∃ m', m' < f + 2 ∧ BrJ w ao n cap at_ nt z S l' m' a' w') (bodyPost Try.prog Try.f85 (RetT w S))) ⟨fr11 ao n cap at_ w.heap.size u, []⟩ W := by
  obtain ⟨bb, off, rfl, hbb, hc⟩ := hr.at_ (by omega)
  obtain ⟨f, rfl⟩ : ∃ f', f = f' + 1 := ⟨f - 1, by omega⟩
  rw [brkG] at hS
  by_cases hin : i = n
  · rw [if_pos (by omega)] at hS
    refine br_n _ n cap at_ _ u hq hin (fun tm hfr => ?_)
    obtain ⟨u', rfl⟩ := hfr
    exact ⟨0, by omega, .inr (.inr ⟨rfl, u', _, _, _, _, _, _, _, _, _, rfl, rfl, hq, hS.symm⟩)⟩
  have hlt : i < n := by omega
  rw [if_neg (by omega)] at hS
  have hcW : W.cell? ⟨bb, off + i, none⟩ = some (.int .u8 (z i : Nat)) := by rw [hq.bel.cell (p := ⟨bb, off + i, none⟩) hbb]; exact hc i hlt
  by_cases h93 : z i = 93
  · rw [if_pos h93] at hS
    rw [h93] at hcW
    refine br_e bb off n cap at_ _ u hq hlt hcW (fun tm hfr => ?_)
    obtain ⟨u', rfl⟩ := hfr
    exact ⟨1, by omega, .inr (.inl ⟨rfl, u', _, P, _, _, _, _, _, _, _, _, rfl, rfl, hq, h4, hlt, hS.symm⟩)⟩
  rw [if_neg h93] at hS
  have HU := units_any (some ⟨bb, off, none⟩) n cap i z W (hr.below hq.bel) hn hlt
  by_cases her : (untS z n i).2.2 = 0
  · rw [if_neg (by simp [her])] at hS
    rw [her] at HU
    have hu := untS_lt hlt her
    refine br_go bb off n cap at_ _ u hq hlt (z i) hcW h93 P (untS z n i).1 h4 (untS z n i).2.1 HU (fun tm W' d0 d1 d2 d3 e0 e1 e2 e3 hfr hq' h4' => ?_)
    obtain ⟨u', rfl⟩ := hfr
    exact ⟨f + 2, by omega, .inl ⟨rfl, u', f, _, _, _, _, _, _, _, _, _, _, rfl, rfl, hq', h4', hu.2, by omega, hS⟩⟩
  · rw [if_pos her] at hS
    exact br_bad bb off n cap at_ _ u hq hlt (z i) hcW h93 _ _ _ her HU (ret_bad hS.symm)
theorem bq_start (w : World) (at_ : Nat) (nt : Bool) (i : Nat) : Bq w w.heap.size at_ nt 0 0 0 0 i 0 0 0 0 0 (((((w.alloc (.cells #[.int .i64 0, .int .u8 0, .int .u64 0, .int .u64 0, .int .u64 0, .int .u64 0, .bool false, .int .i64 0, .int .i64 0, .bool false, .int .i64 0] 42)).alloc (.cells #[.int .i64 0, .int .i64 0] 96)).alloc (.cells #[.int .i64 2, .int .u8 0, .int .u64 0, .int .u64 0, .int .u64 0, .int .u64 0, .bool nt, .int .i64 0, .int .i64 0, .bool false, .int .i64 (at_ : Nat)] 42)).alloc (.cells #[.int .i64 (i : Nat), .int .i64 0] 96)).alloc (.cells #[.int .u64 0, .int .u64 0, .int .u64 0, .int .u64 0] 40)) := by
  refine ⟨(((cl0 w _ _).alloc _).alloc _), (((cl1 w _ _).alloc _).alloc _), (((cl2 w _ _ [.int .i64 2, .int .u8 0, .int .u64 0, .int .u64 0, .int .u64 0, .int .u64 0, .bool nt, .int .i64 0, .int .i64 0, .bool false, .int .i64 (at_ : Nat)]).alloc _).alloc _), ?_, ?_, ?_⟩
  · have := (Cl.new (((w.alloc (.cells #[.int .i64 0, .int .u8 0, .int .u64 0, .int .u64 0, .int .u64 0, .int .u64 0, .bool false, .int .i64 0, .int .i64 0, .bool false, .int .i64 0] 42)).alloc (.cells #[.int .i64 0, .int .i64 0] 96)).alloc (.cells #[.int .i64 2, .int .u8 0, .int .u64 0, .int .u64 0, .int .u64 0, .int .u64 0, .bool nt, .int .i64 0, .int .i64 0, .bool false, .int .i64 (at_ : Nat)] 42)) 96 [.int .i64 (i : Nat), .int .i64 0]).alloc (.cells #[.int .u64 0, .int .u64 0, .int .u64 0, .int .u64 0] 40)
    simpa using this
  · have := Cl.new ((((w.alloc (.cells #[.int .i64 0, .int .u8 0, .int .u64 0, .int .u64 0, .int .u64 0, .int .u64 0, .bool false, .int .i64 0, .int .i64 0, .bool false, .int .i64 0] 42)).alloc (.cells #[.int .i64 0, .int .i64 0] 96)).alloc (.cells #[.int .i64 2, .int .u8 0, .int .u64 0, .int .u64 0, .int .u64 0, .int .u64 0, .bool nt, .int .i64 0, .int .i64 0, .bool false, .int .i64 (at_ : Nat)] 42)).alloc (.cells #[.int .i64 (i : Nat), .int .i64 0] 96)) 40 [.int .u64 0, .int .u64 0, .int .u64 0, .int .u64 0]
    simpa using this
  · exact (bel4 w _ _ _ _).alloc (by simp; omega) _
theorem br_labels (ao : Option Addr) (n cap at_ : Nat) (z : Nat → Nat) (w : World) (hr : Rd w ao n z) (hn : (n : Int) ≤ 1024) (ha : at_ < n) (nt : Bool) (S : TokS) (l m : Nat) (a : Act) (W : World) (hJ : BrJ w ao n cap at_ nt z S l m a W) :
    ∃ rest, findLabel (scopeIn Try.f85) l = some rest ∧ rest.wp Try.prog (jumps (fun l' a' w' => ∃ m', m' < m ∧ BrJ w ao n cap at_ nt z S l' m' a' w') (bodyPost Try.prog Try.f85 (RetT w S))) a W := by
  rcases hJ with ⟨rfl, u, f, i, P, c0, c1, c2, c3, p0, p1, p2, p3, rfl, rfl, hq, h4, hi, hf, hS⟩ | ⟨rfl, u, i, P, c0, c1, c2, c3, p0, p1, p2, p3, rfl, rfl, hq, h4, hi, hS⟩ | ⟨rfl, u, i, c0, c1, c2, c3, p0, p1, p2, p3, rfl, rfl, hq, hS⟩
  · exact ⟨_, br11_1, wp_skip_seq (br_pass ao n cap at_ z w hr hn ha hq h4 hi hf hS)⟩
  · refine ⟨_, br11_2, wp_skip_seq ?_⟩
    have hM := mayClass_c h4 nt W
    cases hm : mayP P nt with
    | true =>
      rw [hm] at hM hS
      rw [if_pos rfl] at hS
      exact br_end ao n cap at_ _ u hq (by omega) hM (fun W' hb => by rw [hS]; exact retT_c ⟨c0, c1, c2, c3, rfl, h4, hb⟩)
    | false =>
      rw [hm] at hM hS
      rw [if_neg (by decide)] at hS
      exact br_none ao n cap at_ _ u hq hM (ret_bad hS)
  · exact ⟨_, br11_0, wp_skip_seq (br_wrong ao n cap at_ _ u hq (ret_bad hS))⟩
set_option maxRecDepth 20000 in
set_option maxHeartbeats 4000000 in
theorem br_yes (ao : Option Addr) (n cap at_ : Nat) (z : Nat → Nat) (w : World) (hr : Rd w ao n z) (hn : (n : Int) ≤ 1024) (ha : at_ < n) (h : hasP z n (at_ + 1) 94 = true) : Calls Try.prog 85 #[.slice ao n cap, .int .i64 (at_ : Nat)] w (RetT w (brkG z n at_ true 1100 (at_ + 2) (fun _ => false))) := by
  have HH : Hid (∀ W, Below w.heap.size w W → Calls Try.prog 99 #[.slice ao n cap, .int .i64 ((at_ : Int) + 1), .int .u8 94] W fun e w' => e = .returned (.bool true) ∧ w' = W) := has_at ao n cap at_ 1 94 z w hr true h
  have h2 := hasP_lt h
  clear h
  obtain ⟨S, hS⟩ : ∃ S, brkG z n at_ true 1100 (at_ + 2) (fun _ => false) = S := ⟨_, rfl⟩
  rw [hS]
  have HS : Hid (brkG z n at_ true 1100 (at_ + 2) (fun _ => false) = S) := hS
  have HL : Hid (∀ l m a W, BrJ w ao n cap at_ true z S l m a W → _) := fun l m a W hJ => br_labels ao n cap at_ z w hr hn ha true S l m a W hJ
  have HP : Hid (∀ (W : World) (tm : Array Value), Fr11 ao n cap at_ w.heap.size tm → Bq w w.heap.size at_ true 0 0 0 0 (at_ + 2) 0 0 0 0 0 W → Code.wp Try.prog (labelIn Try.f85 1) (jumps (fun l' a' w' => ∃ m', m' < 1100 + 2 ∧ BrJ w ao n cap at_ true z S l' m' a' w') (bodyPost Try.prog Try.f85 (RetT w S))) ⟨tm, []⟩ W) := fun W tm ⟨u, e⟩ hq => e ▸ br_pass ao n cap at_ z w hr hn ha (u := u) hq c4_none (by omega) (show n - (at_ + 2) < 1100 by omega) HS.out
  clear hS hr h2
  go_enter Try.func85, Try.ntmps85
  go_wp2_with fail
  refine wp_scope_labels (BrJ w ao n cap at_ true z S) ?_ (fun l m a W hJ => HL.out l m a W hJ)
  go_wp2_with fail
  refine (HH.out _ (bel2 _ _ _)).mono ?_
  rintro e w1 ⟨rfl, rfl⟩
  go_wp2_with fail
  go_step3
  rename_i K hK
  refine hK _ _ ?_
  clear hK
  refine Code.wp_mono (jumps_mono (fun l a w hq => ?_)) (HP.out _ _ (Fr11.of _ rfl) (bq_start w at_ true (at_ + 2)))
  obtain ⟨m, _, hm⟩ := hq
  exact ⟨m, hm⟩
set_option maxRecDepth 20000 in
set_option maxHeartbeats 4000000 in
theorem br_no (ao : Option Addr) (n cap at_ : Nat) (z : Nat → Nat) (w : World) (hr : Rd w ao n z) (hn : (n : Int) ≤ 1024) (ha : at_ < n) (h : hasP z n (at_ + 1) 94 = false) : Calls Try.prog 85 #[.slice ao n cap, .int .i64 (at_ : Nat)] w (RetT w (brkG z n at_ false 1100 (at_ + 1) (fun _ => false))) := by
  have HH : Hid (∀ W, Below w.heap.size w W → Calls Try.prog 99 #[.slice ao n cap, .int .i64 ((at_ : Int) + 1), .int .u8 94] W fun e w' => e = .returned (.bool false) ∧ w' = W) := has_at ao n cap at_ 1 94 z w hr false h
  clear h
  obtain ⟨S, hS⟩ : ∃ S, brkG z n at_ false 1100 (at_ + 1) (fun _ => false) = S := ⟨_, rfl⟩
  rw [hS]
  have HS : Hid (brkG z n at_ false 1100 (at_ + 1) (fun _ => false) = S) := hS
  have HL : Hid (∀ l m a W, BrJ w ao n cap at_ false z S l m a W → _) := fun l m a W hJ => br_labels ao n cap at_ z w hr hn ha false S l m a W hJ
  have HP : Hid (∀ (W : World) (tm : Array Value), Fr11 ao n cap at_ w.heap.size tm → Bq w w.heap.size at_ false 0 0 0 0 (at_ + 1) 0 0 0 0 0 W → Code.wp Try.prog (labelIn Try.f85 1) (jumps (fun l' a' w' => ∃ m', m' < 1100 + 2 ∧ BrJ w ao n cap at_ false z S l' m' a' w') (bodyPost Try.prog Try.f85 (RetT w S))) ⟨tm, []⟩ W) := fun W tm ⟨u, e⟩ hq => e ▸ br_pass ao n cap at_ z w hr hn ha (u := u) hq c4_none (by omega) (show n - (at_ + 1) < 1100 by omega) HS.out
  clear hS hr
  go_enter Try.func85, Try.ntmps85
  go_wp2_with fail
  refine wp_scope_labels (BrJ w ao n cap at_ false z S) ?_ (fun l m a W hJ => HL.out l m a W hJ)
  go_wp2_with fail
  refine (HH.out _ (bel2 _ _ _)).mono ?_
  rintro e w1 ⟨rfl, rfl⟩
  go_wp2_with fail
  go_step3
  rename_i K hK
  refine hK _ _ ?_
  clear hK
  refine Code.wp_mono (jumps_mono (fun l a w hq => ?_)) (HP.out _ _ (Fr11.of _ rfl) (bq_start w at_ false (at_ + 1)))
  obtain ⟨m, _, hm⟩ := hq
  exact ⟨m, hm⟩
theorem bracket_any (ao : Option Addr) (n cap at_ : Nat) (z : Nat → Nat) (w : World) (hr : Rd w ao n z) (hn : (n : Int) ≤ 1024) (ha : at_ < n) : Calls Try.prog 85 #[.slice ao n cap, .int .i64 (at_ : Nat)] w (RetT w (brkS z n at_)) := by
  unfold brkS
  cases h : hasP z n (at_ + 1) 94 with
  | true => rw [if_pos rfl]; exact br_yes ao n cap at_ z w hr hn ha h
  | false => rw [if_neg (by decide)]; exact br_no ao n cap at_ z w hr hn ha h
theorem word_whole (ao : Option Addr) (n cap at_ : Nat) (z : Nat → Nat) (w : World) (hr : Rd w ao n z) (hn : (n : Int) ≤ 1024) (ha : at_ < n) : Calls Try.prog 77 #[.slice ao n cap, .int .i64 (at_ : Nat)] w (RetT w (wrd z n at_)) :=
  word_t ao n cap at_ z w hr hn ha (brkS z n at_) fun _ W hb => bracket_any ao n cap at_ z W (hr.below hb) hn ha
end Go.Proofs.Ytlmmiicibjfcdaa
namespace Go.Proofs.Ytlmmiicibjfcdaa
open Go.RowKit
/-- From A to B only the blocks from b to b + 3 may have turned. -/
structure Turn (b : Nat) (A B : World) : Prop where
  os : B.os = A.os
  tape : B.tape = A.tape
  output : B.output = A.output
  size : A.heap.size ≤ B.heap.size
  block : ∀ k, k < A.heap.size → (k < b ∨ b + 4 ≤ k) → B.heap[k]? = A.heap[k]?
/-- From A to B only the blocks b + 2 and b + 3 may have turned. -/
structure TurnI (b : Nat) (A B : World) : Prop where
  os : B.os = A.os
  tape : B.tape = A.tape
  output : B.output = A.output
  size : A.heap.size ≤ B.heap.size
  block : ∀ k, k < A.heap.size → k ≠ b + 2 → k ≠ b + 3 → B.heap[k]? = A.heap[k]?
theorem TurnI.turn {b : Nat} {A B : World} (h : TurnI b A B) : Turn b A B := ⟨h.os, h.tape, h.output, h.size, fun k hk hb => h.block k hk (by omega) (by omega)⟩
theorem TurnI.of_below {b : Nat} {A B : World} (h : Below A.heap.size A B) : TurnI b A B := ⟨h.os, h.tape, h.output, h.size, fun k hk _ _ => h.block k hk⟩
theorem TurnI.trans {b : Nat} {A B C : World} (h : TurnI b A B) (k : TurnI b B C) : TurnI b A C :=
  ⟨k.os.trans h.os, k.tape.trans h.tape, k.output.trans h.output, Nat.le_trans h.size k.size, fun i hi h2 h3 => (k.block i (Nat.lt_of_lt_of_le hi h.size) h2 h3).trans (h.block i hi h2 h3)⟩
theorem TurnI.of_set {b B : Nat} {A C : World} (h : Below B A C) (hs : ∀ k, k ≠ b + 2 → k ≠ b + 3 → C.heap[k]? = A.heap[k]?) : TurnI b A C := ⟨h.os, h.tape, h.output, h.size, fun k _ h2 h3 => hs k h2 h3⟩
theorem Turn.of_below {b : Nat} {A B : World} (h : Below A.heap.size A B) : Turn b A B := (TurnI.of_below h).turn
theorem Turn.put {b : Nat} {A : World} (l : Nat) (o : Obj) (hl : b ≤ l ∧ l < b + 4) : Turn b A (A.putObj l o) :=
  ⟨rfl, rfl, rfl, by simp, fun k _ hk => World.putObj_heap_other (by omega)⟩
/-- What a round of the body keeps: the old blocks, and those from b to b + 3. -/
structure KeepT (b : Nat) (Old : Nat → Prop) (A B : World) : Prop where
  size : A.heap.size ≤ B.heap.size
  same : ∀ k, (Old k ∨ (b ≤ k ∧ k < b + 4)) → B.heap[k]? = A.heap[k]?
theorem KeepT.refl (b : Nat) (Old : Nat → Prop) (A : World) : KeepT b Old A A := ⟨Nat.le_refl _, fun _ _ => rfl⟩
theorem KeepT.trans {b : Nat} {Old : Nat → Prop} {A B C : World} (h : KeepT b Old A B) (k : KeepT b Old B C) : KeepT b Old A C := ⟨Nat.le_trans h.size k.size, fun i hi => (k.same i hi).trans (h.same i hi)⟩
/-- What the iterator sees of it. -/
def KeepY (b : Nat) (Old : Nat → Prop) (A B : World) : Prop := A.heap.size ≤ B.heap.size ∧ ∀ k, (Old k ∨ k = b + 2 ∨ k = b + 3) → B.heap[k]? = A.heap[k]?
/-- How the body of a round may be left. -/
def turnPost {α : Type} (b : Nat) (Old : Nat → Prop) (I : List α → World → Prop) (Ix : Code → List α → World → Prop) (xs : List α) (W : World) : Exit → Act → World → Prop
  | .normal, _, W' => KeepT b Old W W' ∧ I xs W'
  | .ret, _, W' => KeepT b Old W W' ∧ Ix .ret xs W'
  | _, _, _ => False
/-- What such an iterator is owed, and does: it begins in a world of b + 2 blocks. -/
def SeqT {α : Type} (F : Fence) (n : Nat) (P : Program) (b : Nat) (Old : Nat → Prop) (g : Nat) (lb : Array Value) (encs : α → Array Value) (S Sp : List α → Prop) (N : Nat) (w : World) : Prop :=
  ∀ (J Jx : List α → World → Prop) (W : World), Below b w W → W.heap.size = b + 2 → (∀ s A B, J s A → TurnI b A B → J s B) → (∀ s A B, Jx s A → TurnI b A B → Jx s B) →
    (∀ pre x W1, J pre W1 → b + 4 ≤ W1.heap.size → pre.length < N → YieldAt F (n - 1) P (b + 1) (encs x) W1 fun e W' =>
      (e = .returned (.bool true) ∧ J (pre ++ [x]) W' ∧ KeepY b Old W1 W') ∨ (e = .returned (.bool false) ∧ Jx (pre ++ [x]) W')) →
    J [] W →
    CallsIn F n P g (#[.func (.yield (b + 1)) #[] #[]] ++ lb) W fun e W' => (∃ v, e = .returned v) ∧ ((∃ xs, S xs ∧ J xs W') ∨ (∃ pre, Sp pre ∧ Jx pre W'))
theorem wpIn_rangeFunc_turn {α : Type} {F : Fence} {n : Nat} {P : Program} {g : Operand} {ps : Array Tmp} {assign body : Code} {Q : Exit → Act → World → Prop} {a : Act} {w : World}
    (hro : F.round = none) (h1 : 1 ≤ n) {gf : Nat} {lb : Array Value} (hg : a.eval g = .func (.func gf) #[] lb) (hFg : F.fn gf) (eg : ∀ args w, (callFunc gf args).run P w = .ok (.enter gf args) w)
    {encs : α → Array Value} {S Sp : List α → Prop} {N : Nat} (Old : Nat → Prop) (hOld : ∀ k, Old k → k < w.heap.size) (hseq : SeqT F (n - 1) P w.heap.size Old gf lb encs S Sp N w) (hps : ∀ x, (encs x).size = ps.size)
    (I : List α → World → Prop) (Ix : Code → List α → World → Prop) (hI : ∀ s A B, I s A → Turn w.heap.size A B → I s B) (hIx : ∀ c s A B, Ix c s A → Turn w.heap.size A B → Ix c s B) (h0 : I [] w)
    (Ax : α → Act → World → Prop) (hAx : ∀ x a' A B, Ax x a' A → Turn w.heap.size A B → Ax x a' B)
    (hassign : ∀ (pre : List α) (x : α) (W : World) (K : Act → World → Prop), I pre W → w.heap.size + 4 ≤ W.heap.size → (∀ a' W', KeepT w.heap.size Old W W' → I pre W' → Ax x a' W' → K a' W') →
      assign.wpIn (F.inRound (w.heap.size + 1)) (n - 1 - 1) P (Exit.then K (fun _ _ _ => False)) { tmps := (ps.zip (encs x)).foldl (fun t (p, v) => t.setIfInBounds p v) a.tmps, defers := [] } W)
    (hbody : ∀ (pre : List α) (x : α) (a' : Act) (W : World), I pre W → Ax x a' W → w.heap.size + 4 ≤ W.heap.size → pre.length < N → body.wpIn (F.inRound (w.heap.size + 1)) (n - 1 - 1) P (turnPost w.heap.size Old I Ix (pre ++ [x]) W) a' W)
    (hdone : ∀ (xs : List α) (W : World), S xs → I xs W → W.heap[w.heap.size]? = some (.deferred (some [])) → Q .normal { a with defers := { target := .collected w.heap.size, args := #[] } :: a.defers } W)
    (hstop : ∀ (pre : List α) (W : World), Sp pre → Ix .ret pre W → W.heap[w.heap.size]? = some (.deferred (some [])) → Code.ret.wpIn F n P Q { a with defers := { target := .collected w.heap.size, args := #[] } :: a.defers } W) :
    (Code.rangeFunc g ps assign body).wpIn F n P Q a w := by
  refine wpIn_rangeFunc fun fn hfn => ?_
  rw [hro]
  let rec0 : LoopState → Option Code → Loop := fun st pe => { state := st, pending := pe, fn, tmps := a.tmps, params := ps, assign, body, defers := w.heap.size }
  let W1 := (w.alloc (.deferred (some []))).alloc (.loop (rec0 .ready none))
  have hs1 : W1.heap.size = w.heap.size + 2 := by simp [W1]
  have eL : W1.heap[w.heap.size + 1]? = some (.loop (rec0 .ready none)) := by
    have := World.alloc_heap_new (w.alloc (.deferred (some []))) (.loop (rec0 .ready none))
    rwa [World.size_alloc] at this
  have eD : W1.heap[w.heap.size]? = some (.deferred (some [])) := (Below.heap_alloc _ _ _ (by simp)).trans (World.alloc_heap_new w _)
  have hb : Below w.heap.size w W1 := ((Below.refl _ w).alloc (Nat.le_refl _) _).alloc (by simp) _
  refine ⟨w.heap.size + 1, [{ target := .collected w.heap.size, args := #[] }], W1, { target := .fn (.func gf) lb, args := #[.func (.yield (w.heap.size + 1)) #[] #[]] }, W1, gf, #[.func (.yield (w.heap.size + 1)) #[] #[]] ++ lb, W1, run_enterLoop_outer _ _ _ _ _, ?_, ?_, ?_, fun _ => h1, ?_⟩
  · simp only [resolve, hg]
    simp [go_sem]
  · intro f' hf'
    simp [Target.leads] at hf'
    subst hf'
    exact hFg
  · simp [invoke, go_sem, eg]
  refine (hseq (fun pre W => I pre W ∧ W.heap[w.heap.size + 1]? = some (.loop (rec0 .ready none)) ∧ W.heap[w.heap.size]? = some (.deferred (some [])))
    (fun pre W => Ix .ret pre W ∧ W.heap[w.heap.size + 1]? = some (.loop (rec0 .done (some .ret))) ∧ W.heap[w.heap.size]? = some (.deferred (some []))) W1 hb hs1 ?_ ?_ ?_ ⟨hI _ _ _ h0 (Turn.of_below hb), eL, eD⟩).mono ?_
  · rintro s A B ⟨hi, hl, hd⟩ ht
    exact ⟨hI _ _ _ hi ht.turn, (ht.block _ (Array.getElem?_eq_some_iff.1 hl).1 (by omega) (by omega)).trans hl, (ht.block _ (Array.getElem?_eq_some_iff.1 hd).1 (by omega) (by omega)).trans hd⟩
  · rintro s A B ⟨hi, hl, hd⟩ ht
    exact ⟨hIx _ _ _ _ hi ht.turn, (ht.block _ (Array.getElem?_eq_some_iff.1 hl).1 (by omega) (by omega)).trans hl, (ht.block _ (Array.getElem?_eq_some_iff.1 hd).1 (by omega) (by omega)).trans hd⟩
  · rintro pre x W ⟨hi, hl, hd⟩ hsz hlen
    have hy := run_yield (P := P) (args := encs x) hl (hps x)
    refine ⟨fn, _, assign, body, hy, roundIn_of_wpIn hfn (hassign pre x W _ hi hsz fun a' W' hk hi' hx => ?_)⟩
    have hl' : W'.heap[w.heap.size + 1]? = some (.loop (rec0 .ready none)) := (hk.same _ (.inr ⟨by omega, by omega⟩)).trans hl
    have hd' : W'.heap[w.heap.size]? = some (.deferred (some [])) := (hk.same _ (.inr ⟨by omega, by omega⟩)).trans hd
    have hlt := (Array.getElem?_eq_some_iff.1 hl').1
    have hsz' := Nat.le_trans hsz hk.size
    refine ⟨_, run_beginRound hl' rfl, ?_⟩
    have hp : Turn w.heap.size W' (W'.putObj (w.heap.size + 1) (.loop (rec0 .busy none))) := Turn.put _ _ ⟨by omega, by omega⟩
    refine wpIn_mono (hbody pre x a' (W'.putObj (w.heap.size + 1) (.loop (rec0 .busy none))) (hI _ _ _ hi' hp) (hAx _ _ _ _ hx hp) (by simpa using hsz') hlen) ?_
    have hl2 : (W'.putObj (w.heap.size + 1) (.loop (rec0 .busy none))).heap[w.heap.size + 1]? = some (.loop (rec0 .busy none)) := World.putObj_heap_same hlt
    have hd2 : (W'.putObj (w.heap.size + 1) (.loop (rec0 .busy none))).heap[w.heap.size]? = some (.deferred (some [])) := (World.putObj_heap_other (by omega)).trans hd'
    rintro e a3 W3 hq
    cases e with
    | normal =>
      obtain ⟨hk3, hi3⟩ := hq
      have hl3 := (hk3.same (w.heap.size + 1) (.inr ⟨by omega, by omega⟩)).trans hl2
      have hd3 := (hk3.same w.heap.size (.inr ⟨by omega, by omega⟩)).trans hd2
      refine ⟨_, _, run_endRound (P := P) none hl3, .inl ⟨rfl, ⟨hI _ _ _ hi3 (Turn.put _ _ ⟨by omega, by omega⟩), World.putObj_heap_same (Array.getElem?_eq_some_iff.1 hl3).1, (World.putObj_heap_other (by omega)).trans hd3⟩, ?_, ?_⟩⟩
      · have := hk3.size; have := hk.size; simp at *; omega
      · intro k hkk
        have hne : k ≠ w.heap.size + 1 := by
          rcases hkk with h | h | h
          · have := hOld k h; omega
          · omega
          · omega
        rw [World.putObj_heap_other hne, hk3.same k (hkk.imp id fun h => by omega), World.putObj_heap_other hne, hk.same k (hkk.imp id fun h => by omega)]
    | ret =>
      obtain ⟨hk3, hi3⟩ := hq
      have hl3 := (hk3.same (w.heap.size + 1) (.inr ⟨by omega, by omega⟩)).trans hl2
      have hd3 := (hk3.same w.heap.size (.inr ⟨by omega, by omega⟩)).trans hd2
      exact ⟨_, _, run_endRound (P := P) (some .ret) hl3, .inr ⟨rfl, hIx _ _ _ _ hi3 (Turn.put _ _ ⟨by omega, by omega⟩), World.putObj_heap_same (Array.getElem?_eq_some_iff.1 hl3).1, (World.putObj_heap_other (by omega)).trans hd3⟩⟩
    | exit id => exact hq.elim
    | goto t => exact hq.elim
    | panic ch => exact hq.elim
    | outgrown => exact hq.elim
  · rintro e W2 ⟨⟨v, rfl⟩, (⟨xs, hS, hi, hl, hd⟩ | ⟨pre, hSp, hi, hl, hd⟩)⟩
    · exact ⟨none, _, run_endLoop (P := P) hl (by simp [rec0]), hdone xs _ hS (hI _ _ _ hi (Turn.put _ _ ⟨by omega, by omega⟩)) ((World.putObj_heap_other (by omega)).trans hd)⟩
    · exact ⟨some .ret, _, run_endLoop (P := P) hl (by simp [rec0]), hstop pre _ hSp (hIx _ _ _ _ hi (Turn.put _ _ ⟨by omega, by omega⟩)) ((World.putObj_heap_other (by omega)).trans hd)⟩
end Go.Proofs.Ytlmmiicibjfcdaa
namespace Go.Proofs.Ytlmmiicibjfcdaa
open Go.RowKit
/-- The number whose lowest n bits are f's. -/
def wordN (f : Nat → Bool) (n : Nat) : Nat := if h : n = 0 then 0 else (if f (n - 1) = true then 2 ^ (n - 1) else 0) + wordN f (n - 1)
theorem wordN_zero (f : Nat → Bool) : wordN f 0 = 0 := by rw [wordN, dif_pos rfl]
theorem wordN_succ (f : Nat → Bool) (n : Nat) : wordN f (n + 1) = (if f n = true then 2 ^ n else 0) + wordN f n := by
  rw [wordN, dif_neg (by omega)]
  simp only [Nat.add_sub_cancel]
theorem wordN_is (f : Nat → Bool) (n : Nat) : wordN f n < 2 ^ n ∧ ∀ j, j < n → (wordN f n).testBit j = f j := by
  induction n with
  | zero => exact ⟨by rw [wordN_zero]; decide, fun j h => by omega⟩
  | succ n ih =>
    obtain ⟨ha, hb⟩ := ih
    rw [wordN_succ]
    generalize wordN f n = a at *
    cases hf : f n with
    | false =>
      rw [if_neg (by decide), Nat.zero_add]
      refine ⟨by rw [Nat.pow_succ]; omega, fun j hj => ?_⟩
      by_cases e : j = n
      · subst e; rw [hf]; exact Nat.testBit_lt_two_pow ha
      · exact hb j (by omega)
    | true =>
      rw [if_pos rfl]
      refine ⟨by rw [Nat.pow_succ]; omega, fun j hj => ?_⟩
      by_cases e : j = n
      · subst e
        rw [Nat.testBit_two_pow_add_eq, Nat.testBit_lt_two_pow ha, hf]; rfl
      · rw [Nat.testBit_two_pow_add_gt (by omega)]
        exact hb j (by omega)
/-- The four words of a class. -/
def wds (P : Nat → Bool) (i : Nat) : Nat := wordN (fun j => P (64 * i + j)) 64
theorem wds_is (P : Nat → Bool) : C4 P (wds P 0) (wds P 1) (wds P 2) (wds P 3) := by
  have h := fun i => wordN_is (fun j => P (64 * i + j)) 64
  exact ⟨(h 0).1, (h 1).1, (h 2).1, (h 3).1, fun j hj => by have := (h 0).2 j hj; rw [Nat.mul_zero, Nat.zero_add] at this; exact this, fun j hj => (h 1).2 j hj, fun j hj => (h 2).2 j hj, fun j hj => (h 3).2 j hj⟩
/-- A token's cells, and the token as a value. -/
def tokC (s : TokS) : List Value := [.int .i64 s.k, .int .u8 (s.b : Nat), .int .u64 (wds s.P 0 : Nat), .int .u64 (wds s.P 1 : Nat), .int .u64 (wds s.P 2 : Nat), .int .u64 (wds s.P 3 : Nat), .bool s.nt, .int .i64 s.l, .int .i64 s.m, .bool s.lz, .int .i64 (s.at_ : Nat)]
def tokOf (s : TokS) : Value := tokV s.k s.b (wds s.P 0) (wds s.P 1) (wds s.P 2) (wds s.P 3) s.nt s.l s.m s.lz s.at_
def RetD (w : World) (s : TokS) (e : Ending) (w' : World) : Prop := e = .returned (.tuple #[tokOf s, markV s.en s.er]) ∧ Below w.heap.size w w'
theorem RetT.d {w : World} {s : TokS} {e : Ending} {w' : World} (h : RetT w s e w') : RetD w s e w' := by
  obtain ⟨k, b, a0, a1, a2, a3, nt, l, m, lz, at', en, er, rfl, ⟨rfl, rfl, h4, rfl, rfl, rfl, rfl, rfl, rfl, rfl⟩, hb⟩ := h
  obtain ⟨rfl, rfl, rfl, rfl⟩ := h4.uniq (wds_is s.P)
  exact ⟨rfl, hb⟩
end Go.Proofs.Ytlmmiicibjfcdaa
