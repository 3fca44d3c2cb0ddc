/- token: bracket: its ends. token: bracket as a whole; word. -/
import Derived.Test.YtkbeiadbolihiaaM22Kr
namespace Go.Proofs.Ytkbeiadbolihiaa
open Go.RowKit
theorem cells_zero {W : World} {N : Nat} (V0 : Cl W N 33 [.int .i64 0, .int .u8 0, .int .u64 0, .int .u64 0, .int .u64 0, .int .u64 0, .bool false, .int .i64 0, .int .i64 0, .bool false, .int .i64 0]) (V1 : Cl W (N + 1) 45 [.int .i64 0, .int .i64 0]) (y0 y1 y2 y3 y4 y5 y6 y7 y8 y9 y10 y11 y12 : Value) :
    Cl (put2 (put11 W N y0 y1 y2 y3 y4 y5 y6 y7 y8 y9 y10) (N + 1) y11 y12) N 33 [y0, y1, y2, y3, y4, y5, y6, y7, y8, y9, y10] ∧ Cl (put2 (put11 W N y0 y1 y2 y3 y4 y5 y6 y7 y8 y9 y10) (N + 1) y11 y12) (N + 1) 45 [y11, y12] :=
  ⟨(V0.put11 y0 y1 y2 y3 y4 y5 y6 y7 y8 y9 y10).others2 (k := N + 1) (by omega) y11 y12, (V1.others11 (k := N) (by omega) y0 y1 y2 y3 y4 y5 y6 y7 y8 y9 y10).put2 y11 y12⟩
set_option maxRecDepth 20000 in
set_option maxHeartbeats 4000000 in
theorem br_wrong {K : Nat → Act → World → Prop} {R : Ending → World → Prop} (ao : Option Addr) (n cap at_ N : Nat) (u : Nat → Value) {w W : World} {nt : Bool} {c0 c1 c2 c3 i p0 p1 p2 p3 : Nat} (hq : Bq w N at_ nt c0 c1 c2 c3 i 0 p0 p1 p2 p3 W)
    (hR : Hid (∀ W', Below N w W' → R (.returned (.tuple #[tokV 0 0 0 0 0 0 false 0 0 false 0, markV at_ 41])) W')) : Code.wp Try.prog (labelIn Try.f20 0) (jumps K (bodyPost Try.prog Try.f20 R)) ⟨fr11 ao n cap at_ N u, []⟩ W := by
  obtain ⟨Q0, hQ0⟩ : ∃ Q0, Q0 = bodyPost Try.prog Try.f20 R := ⟨_, rfl⟩
  rw [← hQ0]
  have HQ0 : Hid (Q0 = bodyPost Try.prog Try.f20 R) := hQ0
  clear hQ0
  unfold fr11
  conv => arg 2; whnf
  obtain ⟨⟨b0, b1, b2, b3, b4, b5, b6, b7, b8, b9, b10⟩, g0, g1, g2, g3, g4, g5, g6, g7, g8, g9, g10⟩ := hq.k0.eleven
  obtain ⟨⟨d0, d1⟩, e0, e1⟩ := hq.k1.two
  obtain ⟨F, G⟩ := cells_zero hq.k0 hq.k1 (.int .i64 0) (.int .u8 0) (.int .u64 0) (.int .u64 0) (.int .u64 0) (.int .u64 0) (.bool false) (.int .i64 0) (.int .i64 0) (.bool false) (.int .i64 0) (.int .i64 (at_ : Nat)) (.int .i64 41)
  have hB4 := (below_put2 (b := N + 1) (below_put11 (b := N) hq.bel (Nat.le_refl _) (.int .i64 0) (.int .u8 0) (.int .u64 0) (.int .u64 0) (.int .u64 0) (.int .u64 0) (.bool false) (.int .i64 0) (.int .i64 0) (.bool false) (.int .i64 0)) (by omega) (.int .i64 (at_ : Nat)) (.int .i64 41))
  replace F := F.eleven.1
  replace G := G.two.1
  simp only [put2, put11] at F G hB4
  obtain ⟨F0, F1, F2, F3, F4, F5, F6, F7, F8, F9, F10⟩ := F
  obtain ⟨G0, G1⟩ := G
  have HF : Hid (Below N w _) := hB4
  clear hB4 hq
  go_wp2
  rw [jumps_ret, HQ0.out]
  exact bodyPost_ret (v := .tuple #[tokV 0 0 0 0 0 0 false 0 0 false 0, markV at_ 41]) (by simp [results, Try.results20, go_sem, tokV, markV, F0, F1, F2, F3, F4, F5, F6, F7, F8, F9, F10, G0, G1]) rfl (hR.out _ HF.out)
set_option maxRecDepth 20000 in
set_option maxHeartbeats 4000000 in
theorem br_end {K : Nat → Act → World → Prop} {R : Ending → World → Prop} (ao : Option Addr) (n cap at_ N : Nat) (u : Nat → Value) {w W : World} {nt : Bool} {c0 c1 c2 c3 i p0 p1 p2 p3 : Nat} (hq : Bq w N at_ nt c0 c1 c2 c3 i 0 p0 p1 p2 p3 W) (hi : (i : Int) ≤ 1024)
    (HM : Hid (Calls Try.prog 35 #[.agg #[.int .u64 (c0 : Nat), .int .u64 (c1 : Nat), .int .u64 (c2 : Nat), .int .u64 (c3 : Nat)], .bool nt] W (RetB W true)))
    (hR : Hid (∀ W', Below N w W' → R (.returned (.tuple #[tokV 2 0 c0 c1 c2 c3 nt 0 0 false at_, markV (i + 1) 0])) W')) : Code.wp Try.prog (labelIn Try.f20 2) (jumps K (bodyPost Try.prog Try.f20 R)) ⟨fr11 ao n cap at_ N u, []⟩ W := by
  obtain ⟨Q0, hQ0⟩ : ∃ Q0, Q0 = bodyPost Try.prog Try.f20 R := ⟨_, rfl⟩
  rw [← hQ0]
  have HQ0 : Hid (Q0 = bodyPost Try.prog Try.f20 R) := hQ0
  clear hQ0
  unfold fr11
  conv => arg 2; whnf
  obtain ⟨⟨b0, b1, b2, b3, b4, b5, b6, b7, b8, b9, b10⟩, g0, g1, g2, g3, g4, g5, g6, g7, g8, g9, g10⟩ := hq.k2.eleven
  have HQ : Hid (Bq w N at_ nt c0 c1 c2 c3 i 0 p0 p1 p2 p3 W) := hq
  clear hq
  go_wp2_with fail
  refine HM.out.mono ?_
  rintro e w1 ⟨rfl, hb⟩
  have q1 := HQ.out.next hb
  clear hb HM HQ b0 b1 b2 b3 b4 b5 b6 b7 b8 b9 b10 g0 g1 g2 g3 g4 g5 g6 g7 g8 g9 g10
  go_wp2_with fail
  have i6 : IntKind.i64.wrap ((i : Int) + 1) = (i : Int) + 1 := IntWalk.i64_in _ (by omega)
  clear hi
  obtain ⟨⟨b0, b1, b2, b3, b4, b5, b6, b7, b8, b9, b10⟩, g0, g1, g2, g3, g4, g5, g6, g7, g8, g9, g10⟩ := q1.k0.eleven
  obtain ⟨⟨d0, d1⟩, e0, e1⟩ := q1.k1.two
  obtain ⟨⟨o0, o1⟩, l0, l1⟩ := q1.k3.two
  obtain ⟨⟨m0, m1, m2, m3, m4, m5, m6, m7, m8, m9, m10⟩, -⟩ := q1.k2.eleven
  obtain ⟨F, G⟩ := cells_zero q1.k0 q1.k1 (.int .i64 2) (.int .u8 0) (.int .u64 (c0 : Nat)) (.int .u64 (c1 : Nat)) (.int .u64 (c2 : Nat)) (.int .u64 (c3 : Nat)) (.bool nt) (.int .i64 0) (.int .i64 0) (.bool false) (.int .i64 (at_ : Nat)) (.int .i64 ((i : Int) + 1)) (.int .i64 0)
  have hB4 := (below_put2 (b := N + 1) (below_put11 (b := N) q1.bel (Nat.le_refl _) (.int .i64 2) (.int .u8 0) (.int .u64 (c0 : Nat)) (.int .u64 (c1 : Nat)) (.int .u64 (c2 : Nat)) (.int .u64 (c3 : Nat)) (.bool nt) (.int .i64 0) (.int .i64 0) (.bool false) (.int .i64 (at_ : Nat))) (by omega) (.int .i64 ((i : Int) + 1)) (.int .i64 0)).drew
  replace F := F.drew.eleven.1
  replace G := G.drew.two.1
  simp only [put2, put11] at F G hB4
  obtain ⟨F0, F1, F2, F3, F4, F5, F6, F7, F8, F9, F10⟩ := F
  obtain ⟨G0, G1⟩ := G
  have HF : Hid (Below N w _) := hB4
  clear hB4 q1
  refine wp_then_only ?_
  go_region_with (fail)
  all_goals go_wp2
  all_goals rw [jumps_ret, HQ0.out]
  all_goals exact bodyPost_ret (v := .tuple #[tokV 2 0 c0 c1 c2 c3 nt 0 0 false at_, markV (i + 1) 0]) (by simp [results, Try.results20, go_sem, tokV, markV, F0, F1, F2, F3, F4, F5, F6, F7, F8, F9, F10, G0, G1]) rfl (hR.out _ HF.out)
set_option maxRecDepth 20000 in
set_option maxHeartbeats 4000000 in
theorem br_none {K : Nat → Act → World → Prop} {R : Ending → World → Prop} (ao : Option Addr) (n cap at_ N : Nat) (u : Nat → Value) {w W : World} {nt : Bool} {c0 c1 c2 c3 i p0 p1 p2 p3 : Nat} (hq : Bq w N at_ nt c0 c1 c2 c3 i 0 p0 p1 p2 p3 W)
    (HM : Hid (Calls Try.prog 35 #[.agg #[.int .u64 (c0 : Nat), .int .u64 (c1 : Nat), .int .u64 (c2 : Nat), .int .u64 (c3 : Nat)], .bool nt] W (RetB W false)))
    (hR : Hid (∀ W', Below N w W' → R (.returned (.tuple #[tokV 0 0 0 0 0 0 false 0 0 false 0, markV at_ 41])) W')) : Code.wp Try.prog (labelIn Try.f20 2) (jumps K (bodyPost Try.prog Try.f20 R)) ⟨fr11 ao n cap at_ N u, []⟩ W := by
  obtain ⟨Q0, hQ0⟩ : ∃ Q0, Q0 = bodyPost Try.prog Try.f20 R := ⟨_, rfl⟩
  rw [← hQ0]
  have HQ0 : Hid (Q0 = bodyPost Try.prog Try.f20 R) := hQ0
  clear hQ0
  unfold fr11
  conv => arg 2; whnf
  obtain ⟨⟨b0, b1, b2, b3, b4, b5, b6, b7, b8, b9, b10⟩, g0, g1, g2, g3, g4, g5, g6, g7, g8, g9, g10⟩ := hq.k2.eleven
  have HQ : Hid (Bq w N at_ nt c0 c1 c2 c3 i 0 p0 p1 p2 p3 W) := hq
  clear hq
  go_wp2_with fail
  refine HM.out.mono ?_
  rintro e w1 ⟨rfl, hb⟩
  have hq := HQ.out.next hb
  clear hb HM HQ b0 b1 b2 b3 b4 b5 b6 b7 b8 b9 b10 g0 g1 g2 g3 g4 g5 g6 g7 g8 g9 g10
  go_wp2_with fail
  go_step3
  obtain ⟨⟨b0, b1, b2, b3, b4, b5, b6, b7, b8, b9, b10⟩, g0, g1, g2, g3, g4, g5, g6, g7, g8, g9, g10⟩ := hq.k0.eleven
  obtain ⟨⟨d0, d1⟩, e0, e1⟩ := hq.k1.two
  obtain ⟨F, G⟩ := cells_zero hq.k0 hq.k1 (.int .i64 0) (.int .u8 0) (.int .u64 0) (.int .u64 0) (.int .u64 0) (.int .u64 0) (.bool false) (.int .i64 0) (.int .i64 0) (.bool false) (.int .i64 0) (.int .i64 (at_ : Nat)) (.int .i64 41)
  have hB4 := (below_put2 (b := N + 1) (below_put11 (b := N) hq.bel (Nat.le_refl _) (.int .i64 0) (.int .u8 0) (.int .u64 0) (.int .u64 0) (.int .u64 0) (.int .u64 0) (.bool false) (.int .i64 0) (.int .i64 0) (.bool false) (.int .i64 0)) (by omega) (.int .i64 (at_ : Nat)) (.int .i64 41))
  replace F := F.eleven.1
  replace G := G.two.1
  simp only [put2, put11] at F G hB4
  obtain ⟨F0, F1, F2, F3, F4, F5, F6, F7, F8, F9, F10⟩ := F
  obtain ⟨G0, G1⟩ := G
  have HF : Hid (Below N w _) := hB4
  clear hB4 hq
  go_wp2
  rw [jumps_ret, HQ0.out]
  exact bodyPost_ret (v := .tuple #[tokV 0 0 0 0 0 0 false 0 0 false 0, markV at_ 41]) (by simp [results, Try.results20, go_sem, tokV, markV, F0, F1, F2, F3, F4, F5, F6, F7, F8, F9, F10, G0, G1]) rfl (hR.out _ HF.out)
end Go.Proofs.Ytkbeiadbolihiaa
namespace Go.Proofs.Ytkbeiadbolihiaa
open Go.RowKit
/-- What holds at bracket's jumps. -/
def BrJ (w : World) (ao : Option Addr) (n cap at_ : Nat) (nt : Bool) (z : Nat → Nat) (S : TokS) (l m : Nat) (a : Act) (W : World) : Prop :=
  (l = 1 ∧ ∃ u f i P c0 c1 c2 c3 p0 p1 p2 p3, m = f + 2 ∧ a = ⟨fr11 ao n cap at_ w.heap.size u, []⟩ ∧ Bq w w.heap.size at_ nt c0 c1 c2 c3 i 0 p0 p1 p2 p3 W ∧ C4 P c0 c1 c2 c3 ∧ i ≤ n ∧ n - i < f ∧ brkG z n at_ nt f i P = S)
  ∨ (l = 2 ∧ ∃ u i P c0 c1 c2 c3 p0 p1 p2 p3, m = 1 ∧ a = ⟨fr11 ao n cap at_ w.heap.size u, []⟩ ∧ Bq w w.heap.size at_ nt c0 c1 c2 c3 i 0 p0 p1 p2 p3 W ∧ C4 P c0 c1 c2 c3 ∧ i < n ∧ S = if mayP P nt = true then .cls P nt at_ (i + 1) else .bad at_ 41)
  ∨ (l = 0 ∧ ∃ u i c0 c1 c2 c3 p0 p1 p2 p3, m = 0 ∧ a = ⟨fr11 ao n cap at_ w.heap.size u, []⟩ ∧ Bq w w.heap.size at_ nt c0 c1 c2 c3 i 0 p0 p1 p2 p3 W ∧ S = .bad at_ 41)
theorem ret_bad {w : World} {S : TokS} {en : Nat} {er : Int} (h : S = .bad en er) : Hid (∀ W', Below w.heap.size w W' → RetT w S (.returned (.tuple #[tokV 0 0 0 0 0 0 false 0 0 false 0, markV en er])) W') := fun W' hb => by
  rw [h]; exact retT_k (.bad en er) rfl ⟨rfl, hb⟩
theorem br_pass (ao : Option Addr) (n cap at_ : Nat) (z : Nat → Nat) (w : World) (hr : Rd w ao n z) (hn : (n : Int) ≤ 1024) (ha : at_ < n) {W : World} {nt : Bool} {S : TokS} {u : Nat → Value} {f i : Nat} {P : Nat → Bool} {c0 c1 c2 c3 p0 p1 p2 p3 : Nat}
    (hq : Bq w w.heap.size at_ nt c0 c1 c2 c3 i 0 p0 p1 p2 p3 W) (h4 : C4 P c0 c1 c2 c3) (hi : i ≤ n) (hf : n - i < f) (hS : brkG z n at_ nt f i P = S) :
    Code.wp Try.prog (labelIn Try.f20 1) (jumps (fun l' a' w' => ∃ m', m' < f + 2 ∧ BrJ w ao n cap at_ nt z S l' m' a' w') (bodyPost Try.prog Try.f20 (RetT w S))) ⟨fr11 ao n cap at_ w.heap.size u, []⟩ W := by
  obtain ⟨bb, off, rfl, hbb, hc⟩ := hr.at_ (by omega)
  obtain ⟨f, rfl⟩ : ∃ f', f = f' + 1 := ⟨f - 1, by omega⟩
  rw [brkG] at hS
  by_cases hin : i = n
  · rw [if_pos (by omega)] at hS
    refine br_n _ n cap at_ _ u hq hin (fun tm hfr => ?_)
    obtain ⟨u', rfl⟩ := hfr
    exact ⟨0, by omega, .inr (.inr ⟨rfl, u', _, _, _, _, _, _, _, _, _, rfl, rfl, hq, hS.symm⟩)⟩
  have hlt : i < n := by omega
  rw [if_neg (by omega)] at hS
  have hcW : W.cell? ⟨bb, off + i, none⟩ = some (.int .u8 (z i : Nat)) := by rw [hq.bel.cell (p := ⟨bb, off + i, none⟩) hbb]; exact hc i hlt
  by_cases h93 : z i = 93
  · rw [if_pos h93] at hS
    rw [h93] at hcW
    refine br_e bb off n cap at_ _ u hq hlt hcW (fun tm hfr => ?_)
    obtain ⟨u', rfl⟩ := hfr
    exact ⟨1, by omega, .inr (.inl ⟨rfl, u', _, P, _, _, _, _, _, _, _, _, rfl, rfl, hq, h4, hlt, hS.symm⟩)⟩
  rw [if_neg h93] at hS
  have HU := units_any (some ⟨bb, off, none⟩) n cap i z W (hr.below hq.bel) hn hlt
  by_cases her : (untS z n i).2.2 = 0
  · rw [if_neg (by simp [her])] at hS
    rw [her] at HU
    have hu := untS_lt hlt her
    refine br_go bb off n cap at_ _ u hq hlt (z i) hcW h93 P (untS z n i).1 h4 (untS z n i).2.1 HU (fun tm W' d0 d1 d2 d3 e0 e1 e2 e3 hfr hq' h4' => ?_)
    obtain ⟨u', rfl⟩ := hfr
    exact ⟨f + 2, by omega, .inl ⟨rfl, u', f, _, _, _, _, _, _, _, _, _, _, rfl, rfl, hq', h4', hu.2, by omega, hS⟩⟩
  · rw [if_pos her] at hS
    exact br_bad bb off n cap at_ _ u hq hlt (z i) hcW h93 _ _ _ her HU (ret_bad hS.symm)
theorem bq_start (w : World) (at_ : Nat) (nt : Bool) (i : Nat) : Bq w w.heap.size at_ nt 0 0 0 0 i 0 0 0 0 0 (((((w.alloc (.cells #[.int .i64 0, .int .u8 0, .int .u64 0, .int .u64 0, .int .u64 0, .int .u64 0, .bool false, .int .i64 0, .int .i64 0, .bool false, .int .i64 0] 33)).alloc (.cells #[.int .i64 0, .int .i64 0] 45)).alloc (.cells #[.int .i64 2, .int .u8 0, .int .u64 0, .int .u64 0, .int .u64 0, .int .u64 0, .bool nt, .int .i64 0, .int .i64 0, .bool false, .int .i64 (at_ : Nat)] 33)).alloc (.cells #[.int .i64 (i : Nat), .int .i64 0] 45)).alloc (.cells #[.int .u64 0, .int .u64 0, .int .u64 0, .int .u64 0] 31)) := by
  refine ⟨(((cl0 w _ _).alloc _).alloc _), (((cl1 w _ _).alloc _).alloc _), (((cl2 w _ _ [.int .i64 2, .int .u8 0, .int .u64 0, .int .u64 0, .int .u64 0, .int .u64 0, .bool nt, .int .i64 0, .int .i64 0, .bool false, .int .i64 (at_ : Nat)]).alloc _).alloc _), ?_, ?_, ?_⟩
  · have := (Cl.new (((w.alloc (.cells #[.int .i64 0, .int .u8 0, .int .u64 0, .int .u64 0, .int .u64 0, .int .u64 0, .bool false, .int .i64 0, .int .i64 0, .bool false, .int .i64 0] 33)).alloc (.cells #[.int .i64 0, .int .i64 0] 45)).alloc (.cells #[.int .i64 2, .int .u8 0, .int .u64 0, .int .u64 0, .int .u64 0, .int .u64 0, .bool nt, .int .i64 0, .int .i64 0, .bool false, .int .i64 (at_ : Nat)] 33)) 45 [.int .i64 (i : Nat), .int .i64 0]).alloc (.cells #[.int .u64 0, .int .u64 0, .int .u64 0, .int .u64 0] 31)
    simpa using this
  · have := Cl.new ((((w.alloc (.cells #[.int .i64 0, .int .u8 0, .int .u64 0, .int .u64 0, .int .u64 0, .int .u64 0, .bool false, .int .i64 0, .int .i64 0, .bool false, .int .i64 0] 33)).alloc (.cells #[.int .i64 0, .int .i64 0] 45)).alloc (.cells #[.int .i64 2, .int .u8 0, .int .u64 0, .int .u64 0, .int .u64 0, .int .u64 0, .bool nt, .int .i64 0, .int .i64 0, .bool false, .int .i64 (at_ : Nat)] 33)).alloc (.cells #[.int .i64 (i : Nat), .int .i64 0] 45)) 31 [.int .u64 0, .int .u64 0, .int .u64 0, .int .u64 0]
    simpa using this
  · exact (bel4 w _ _ _ _).alloc (by simp; omega) _
theorem br_labels (ao : Option Addr) (n cap at_ : Nat) (z : Nat → Nat) (w : World) (hr : Rd w ao n z) (hn : (n : Int) ≤ 1024) (ha : at_ < n) (nt : Bool) (S : TokS) (l m : Nat) (a : Act) (W : World) (hJ : BrJ w ao n cap at_ nt z S l m a W) :
    ∃ rest, findLabel (scopeIn Try.f20) l = some rest ∧ rest.wp Try.prog (jumps (fun l' a' w' => ∃ m', m' < m ∧ BrJ w ao n cap at_ nt z S l' m' a' w') (bodyPost Try.prog Try.f20 (RetT w S))) a W := by
  rcases hJ with ⟨rfl, u, f, i, P, c0, c1, c2, c3, p0, p1, p2, p3, rfl, rfl, hq, h4, hi, hf, hS⟩ | ⟨rfl, u, i, P, c0, c1, c2, c3, p0, p1, p2, p3, rfl, rfl, hq, h4, hi, hS⟩ | ⟨rfl, u, i, c0, c1, c2, c3, p0, p1, p2, p3, rfl, rfl, hq, hS⟩
  · exact ⟨_, br11_1, wp_skip_seq (br_pass ao n cap at_ z w hr hn ha hq h4 hi hf hS)⟩
  · refine ⟨_, br11_2, wp_skip_seq ?_⟩
    have hM := mayClass_c h4 nt W
    cases hm : mayP P nt with
    | true =>
      rw [hm] at hM hS
      rw [if_pos rfl] at hS
      exact br_end ao n cap at_ _ u hq (by omega) hM (fun W' hb => by rw [hS]; exact retT_c ⟨c0, c1, c2, c3, rfl, h4, hb⟩)
    | false =>
      rw [hm] at hM hS
      rw [if_neg (by decide)] at hS
      exact br_none ao n cap at_ _ u hq hM (ret_bad hS)
  · exact ⟨_, br11_0, wp_skip_seq (br_wrong ao n cap at_ _ u hq (ret_bad hS))⟩
set_option maxRecDepth 20000 in
set_option maxHeartbeats 4000000 in
theorem br_yes (ao : Option Addr) (n cap at_ : Nat) (z : Nat → Nat) (w : World) (hr : Rd w ao n z) (hn : (n : Int) ≤ 1024) (ha : at_ < n) (h : hasP z n (at_ + 1) 94 = true) : Calls Try.prog 20 #[.slice ao n cap, .int .i64 (at_ : Nat)] w (RetT w (brkG z n at_ true 1100 (at_ + 2) (fun _ => false))) := by
  have HH : Hid (∀ W, Below w.heap.size w W → Calls Try.prog 32 #[.slice ao n cap, .int .i64 ((at_ : Int) + 1), .int .u8 94] W fun e w' => e = .returned (.bool true) ∧ w' = W) := has_at ao n cap at_ 1 94 z w hr true h
  have h2 := hasP_lt h
  clear h
  obtain ⟨S, hS⟩ : ∃ S, brkG z n at_ true 1100 (at_ + 2) (fun _ => false) = S := ⟨_, rfl⟩
  rw [hS]
  have HS : Hid (brkG z n at_ true 1100 (at_ + 2) (fun _ => false) = S) := hS
  have HL : Hid (∀ l m a W, BrJ w ao n cap at_ true z S l m a W → _) := fun l m a W hJ => br_labels ao n cap at_ z w hr hn ha true S l m a W hJ
  have HP : Hid (∀ (W : World) (tm : Array Value), Fr11 ao n cap at_ w.heap.size tm → Bq w w.heap.size at_ true 0 0 0 0 (at_ + 2) 0 0 0 0 0 W → Code.wp Try.prog (labelIn Try.f20 1) (jumps (fun l' a' w' => ∃ m', m' < 1100 + 2 ∧ BrJ w ao n cap at_ true z S l' m' a' w') (bodyPost Try.prog Try.f20 (RetT w S))) ⟨tm, []⟩ W) := fun W tm ⟨u, e⟩ hq => e ▸ br_pass ao n cap at_ z w hr hn ha (u := u) hq c4_none (by omega) (show n - (at_ + 2) < 1100 by omega) HS.out
  clear hS hr h2
  go_enter Try.func20, Try.ntmps20
  go_wp2_with fail
  refine wp_scope_labels (BrJ w ao n cap at_ true z S) ?_ (fun l m a W hJ => HL.out l m a W hJ)
  go_wp2_with fail
  refine (HH.out _ (bel2 _ _ _)).mono ?_
  rintro e w1 ⟨rfl, rfl⟩
  go_wp2_with fail
  go_step3
  rename_i K hK
  refine hK _ _ ?_
  clear hK
  refine Code.wp_mono (jumps_mono (fun l a w hq => ?_)) (HP.out _ _ (Fr11.of _ rfl) (bq_start w at_ true (at_ + 2)))
  obtain ⟨m, _, hm⟩ := hq
  exact ⟨m, hm⟩
set_option maxRecDepth 20000 in
set_option maxHeartbeats 4000000 in
theorem br_no (ao : Option Addr) (n cap at_ : Nat) (z : Nat → Nat) (w : World) (hr : Rd w ao n z) (hn : (n : Int) ≤ 1024) (ha : at_ < n) (h : hasP z n (at_ + 1) 94 = false) : Calls Try.prog 20 #[.slice ao n cap, .int .i64 (at_ : Nat)] w (RetT w (brkG z n at_ false 1100 (at_ + 1) (fun _ => false))) := by
  have HH : Hid (∀ W, Below w.heap.size w W → Calls Try.prog 32 #[.slice ao n cap, .int .i64 ((at_ : Int) + 1), .int .u8 94] W fun e w' => e = .returned (.bool false) ∧ w' = W) := has_at ao n cap at_ 1 94 z w hr false h
  clear h
  obtain ⟨S, hS⟩ : ∃ S, brkG z n at_ false 1100 (at_ + 1) (fun _ => false) = S := ⟨_, rfl⟩
  rw [hS]
  have HS : Hid (brkG z n at_ false 1100 (at_ + 1) (fun _ => false) = S) := hS
  have HL : Hid (∀ l m a W, BrJ w ao n cap at_ false z S l m a W → _) := fun l m a W hJ => br_labels ao n cap at_ z w hr hn ha false S l m a W hJ
  have HP : Hid (∀ (W : World) (tm : Array Value), Fr11 ao n cap at_ w.heap.size tm → Bq w w.heap.size at_ false 0 0 0 0 (at_ + 1) 0 0 0 0 0 W → Code.wp Try.prog (labelIn Try.f20 1) (jumps (fun l' a' w' => ∃ m', m' < 1100 + 2 ∧ BrJ w ao n cap at_ false z S l' m' a' w') (bodyPost Try.prog Try.f20 (RetT w S))) ⟨tm, []⟩ W) := fun W tm ⟨u, e⟩ hq => e ▸ br_pass ao n cap at_ z w hr hn ha (u := u) hq c4_none (by omega) (show n - (at_ + 1) < 1100 by omega) HS.out
  clear hS hr
  go_enter Try.func20, Try.ntmps20
  go_wp2_with fail
  refine wp_scope_labels (BrJ w ao n cap at_ false z S) ?_ (fun l m a W hJ => HL.out l m a W hJ)
  go_wp2_with fail
  refine (HH.out _ (bel2 _ _ _)).mono ?_
  rintro e w1 ⟨rfl, rfl⟩
  go_wp2_with fail
  go_step3
  rename_i K hK
  refine hK _ _ ?_
  clear hK
  refine Code.wp_mono (jumps_mono (fun l a w hq => ?_)) (HP.out _ _ (Fr11.of _ rfl) (bq_start w at_ false (at_ + 1)))
  obtain ⟨m, _, hm⟩ := hq
  exact ⟨m, hm⟩
theorem bracket_any (ao : Option Addr) (n cap at_ : Nat) (z : Nat → Nat) (w : World) (hr : Rd w ao n z) (hn : (n : Int) ≤ 1024) (ha : at_ < n) : Calls Try.prog 20 #[.slice ao n cap, .int .i64 (at_ : Nat)] w (RetT w (brkS z n at_)) := by
  unfold brkS
  cases h : hasP z n (at_ + 1) 94 with
  | true => rw [if_pos rfl]; exact br_yes ao n cap at_ z w hr hn ha h
  | false => rw [if_neg (by decide)]; exact br_no ao n cap at_ z w hr hn ha h
theorem word_whole (ao : Option Addr) (n cap at_ : Nat) (z : Nat → Nat) (w : World) (hr : Rd w ao n z) (hn : (n : Int) ≤ 1024) (ha : at_ < n) : Calls Try.prog 17 #[.slice ao n cap, .int .i64 (at_ : Nat)] w (RetT w (wrd z n at_)) :=
  word_t ao n cap at_ z w hr hn ha (brkS z n at_) fun _ W hb => bracket_any ao n cap at_ z W (hr.below hb) hn ha
end Go.Proofs.Ytkbeiadbolihiaa
