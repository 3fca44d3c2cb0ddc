/- token: bracket as a whole; word. -/
import Derived.Test.YtlmmiicibjfcdaaKs
namespace Go.Proofs.Ytlmmiicibjfcdaa
open Go.RowKit
/-- What holds at bracket's jumps. -/
def BrJ (w : World) (ao : Option Addr) (n cap at_ : Nat) (nt : Bool) (z : Nat → Nat) (S : TokS) (l m : Nat) (a : Act) (W : World) : Prop :=
  (l = 1 ∧ ∃ u f i P c0 c1 c2 c3 p0 p1 p2 p3, m = f + 2 ∧ a = ⟨fr11 ao n cap at_ w.heap.size u, []⟩ ∧ Bq w w.heap.size at_ nt c0 c1 c2 c3 i 0 p0 p1 p2 p3 W ∧ C4 P c0 c1 c2 c3 ∧ i ≤ n ∧ n - i < f ∧ brkG z n at_ nt f i P = S)
  ∨ (l = 2 ∧ ∃ u i P c0 c1 c2 c3 p0 p1 p2 p3, m = 1 ∧ a = ⟨fr11 ao n cap at_ w.heap.size u, []⟩ ∧ Bq w w.heap.size at_ nt c0 c1 c2 c3 i 0 p0 p1 p2 p3 W ∧ C4 P c0 c1 c2 c3 ∧ i < n ∧ S = if mayP P nt = true then .cls P nt at_ (i + 1) else .bad at_ 41)
  ∨ (l = 0 ∧ ∃ u i c0 c1 c2 c3 p0 p1 p2 p3, m = 0 ∧ a = ⟨fr11 ao n cap at_ w.heap.size u, []⟩ ∧ Bq w w.heap.size at_ nt c0 c1 c2 c3 i 0 p0 p1 p2 p3 W ∧ S = .bad at_ 41)
theorem ret_bad {w : World} {S : TokS} {en : Nat} {er : Int} (h : S = .bad en er) : Hid (∀ W', Below w.heap.size w W' → RetT w S (.returned (.tuple #[tokV 0 0 0 0 0 0 false 0 0 false 0, markV en er])) W') := fun W' hb => by
  rw [h]; exact retT_k (.bad en er) rfl ⟨rfl, hb⟩
theorem br_pass (ao : Option Addr) (n cap at_ : Nat) (z : Nat → Nat) (w : World) (hr : Rd w ao n z) (hn : (n : Int) ≤ 1024) (ha : at_ < n) {W : World} {nt : Bool} {S : TokS} {u : Nat → Value} {f i : Nat} {P : Nat → Bool} {c0 c1 c2 c3 p0 p1 p2 p3 : Nat}
    (hq : Bq w w.heap.size at_ nt c0 c1 c2 c3 i 0 p0 p1 p2 p3 W) (h4 : C4 P c0 c1 c2 c3) (hi : i ≤ n) (hf : n - i < f) (hS : brkG z n at_ nt f i P = S) :
    Code.wp Try.prog (labelIn Try.f85 1) (jumps (fun l' a' w' => ∃ m', m' < f + 2 ∧ BrJ w ao n cap at_ nt z S l' m' a' w') (bodyPost Try.prog Try.f85 (RetT w S))) ⟨fr11 ao n cap at_ w.heap.size u, []⟩ W := by
  obtain ⟨bb, off, rfl, hbb, hc⟩ := hr.at_ (by omega)
  obtain ⟨f, rfl⟩ : ∃ f', f = f' + 1 := ⟨f - 1, by omega⟩
  rw [brkG] at hS
  by_cases hin : i = n
  · rw [if_pos (by omega)] at hS
    refine br_n _ n cap at_ _ u hq hin (fun tm hfr => ?_)
    obtain ⟨u', rfl⟩ := hfr
    exact ⟨0, by omega, .inr (.inr ⟨rfl, u', _, _, _, _, _, _, _, _, _, rfl, rfl, hq, hS.symm⟩)⟩
  have hlt : i < n := by omega
  rw [if_neg (by omega)] at hS
  have hcW : W.cell? ⟨bb, off + i, none⟩ = some (.int .u8 (z i : Nat)) := by rw [hq.bel.cell (p := ⟨bb, off + i, none⟩) hbb]; exact hc i hlt
  by_cases h93 : z i = 93
  · rw [if_pos h93] at hS
    rw [h93] at hcW
    refine br_e bb off n cap at_ _ u hq hlt hcW (fun tm hfr => ?_)
    obtain ⟨u', rfl⟩ := hfr
    exact ⟨1, by omega, .inr (.inl ⟨rfl, u', _, P, _, _, _, _, _, _, _, _, rfl, rfl, hq, h4, hlt, hS.symm⟩)⟩
  rw [if_neg h93] at hS
  have HU := units_any (some ⟨bb, off, none⟩) n cap i z W (hr.below hq.bel) hn hlt
  by_cases her : (untS z n i).2.2 = 0
  · rw [if_neg (by simp [her])] at hS
    rw [her] at HU
    have hu := untS_lt hlt her
    refine br_go bb off n cap at_ _ u hq hlt (z i) hcW h93 P (untS z n i).1 h4 (untS z n i).2.1 HU (fun tm W' d0 d1 d2 d3 e0 e1 e2 e3 hfr hq' h4' => ?_)
    obtain ⟨u', rfl⟩ := hfr
    exact ⟨f + 2, by omega, .inl ⟨rfl, u', f, _, _, _, _, _, _, _, _, _, _, rfl, rfl, hq', h4', hu.2, by omega, hS⟩⟩
  · rw [if_pos her] at hS
    exact br_bad bb off n cap at_ _ u hq hlt (z i) hcW h93 _ _ _ her HU (ret_bad hS.symm)
theorem bq_start (w : World) (at_ : Nat) (nt : Bool) (i : Nat) : Bq w w.heap.size at_ nt 0 0 0 0 i 0 0 0 0 0 (((((w.alloc (.cells #[.int .i64 0, .int .u8 0, .int .u64 0, .int .u64 0, .int .u64 0, .int .u64 0, .bool false, .int .i64 0, .int .i64 0, .bool false, .int .i64 0] 42)).alloc (.cells #[.int .i64 0, .int .i64 0] 96)).alloc (.cells #[.int .i64 2, .int .u8 0, .int .u64 0, .int .u64 0, .int .u64 0, .int .u64 0, .bool nt, .int .i64 0, .int .i64 0, .bool false, .int .i64 (at_ : Nat)] 42)).alloc (.cells #[.int .i64 (i : Nat), .int .i64 0] 96)).alloc (.cells #[.int .u64 0, .int .u64 0, .int .u64 0, .int .u64 0] 40)) := by
  refine ⟨(((cl0 w _ _).alloc _).alloc _), (((cl1 w _ _).alloc _).alloc _), (((cl2 w _ _ [.int .i64 2, .int .u8 0, .int .u64 0, .int .u64 0, .int .u64 0, .int .u64 0, .bool nt, .int .i64 0, .int .i64 0, .bool false, .int .i64 (at_ : Nat)]).alloc _).alloc _), ?_, ?_, ?_⟩
  · have := (Cl.new (((w.alloc (.cells #[.int .i64 0, .int .u8 0, .int .u64 0, .int .u64 0, .int .u64 0, .int .u64 0, .bool false, .int .i64 0, .int .i64 0, .bool false, .int .i64 0] 42)).alloc (.cells #[.int .i64 0, .int .i64 0] 96)).alloc (.cells #[.int .i64 2, .int .u8 0, .int .u64 0, .int .u64 0, .int .u64 0, .int .u64 0, .bool nt, .int .i64 0, .int .i64 0, .bool false, .int .i64 (at_ : Nat)] 42)) 96 [.int .i64 (i : Nat), .int .i64 0]).alloc (.cells #[.int .u64 0, .int .u64 0, .int .u64 0, .int .u64 0] 40)
    simpa using this
  · have := Cl.new ((((w.alloc (.cells #[.int .i64 0, .int .u8 0, .int .u64 0, .int .u64 0, .int .u64 0, .int .u64 0, .bool false, .int .i64 0, .int .i64 0, .bool false, .int .i64 0] 42)).alloc (.cells #[.int .i64 0, .int .i64 0] 96)).alloc (.cells #[.int .i64 2, .int .u8 0, .int .u64 0, .int .u64 0, .int .u64 0, .int .u64 0, .bool nt, .int .i64 0, .int .i64 0, .bool false, .int .i64 (at_ : Nat)] 42)).alloc (.cells #[.int .i64 (i : Nat), .int .i64 0] 96)) 40 [.int .u64 0, .int .u64 0, .int .u64 0, .int .u64 0]
    simpa using this
  · exact (bel4 w _ _ _ _).alloc (by simp; omega) _
theorem br_labels (ao : Option Addr) (n cap at_ : Nat) (z : Nat → Nat) (w : World) (hr : Rd w ao n z) (hn : (n : Int) ≤ 1024) (ha : at_ < n) (nt : Bool) (S : TokS) (l m : Nat) (a : Act) (W : World) (hJ : BrJ w ao n cap at_ nt z S l m a W) :
    ∃ rest, findLabel (scopeIn Try.f85) l = some rest ∧ rest.wp Try.prog (jumps (fun l' a' w' => ∃ m', m' < m ∧ BrJ w ao n cap at_ nt z S l' m' a' w') (bodyPost Try.prog Try.f85 (RetT w S))) a W := by
  rcases hJ with ⟨rfl, u, f, i, P, c0, c1, c2, c3, p0, p1, p2, p3, rfl, rfl, hq, h4, hi, hf, hS⟩ | ⟨rfl, u, i, P, c0, c1, c2, c3, p0, p1, p2, p3, rfl, rfl, hq, h4, hi, hS⟩ | ⟨rfl, u, i, c0, c1, c2, c3, p0, p1, p2, p3, rfl, rfl, hq, hS⟩
  · exact ⟨_, br11_1, wp_skip_seq (br_pass ao n cap at_ z w hr hn ha hq h4 hi hf hS)⟩
  · refine ⟨_, br11_2, wp_skip_seq ?_⟩
    have hM := mayClass_c h4 nt W
    cases hm : mayP P nt with
    | true =>
      rw [hm] at hM hS
      rw [if_pos rfl] at hS
      exact br_end ao n cap at_ _ u hq (by omega) hM (fun W' hb => by rw [hS]; exact retT_c ⟨c0, c1, c2, c3, rfl, h4, hb⟩)
    | false =>
      rw [hm] at hM hS
      rw [if_neg (by decide)] at hS
      exact br_none ao n cap at_ _ u hq hM (ret_bad hS)
  · exact ⟨_, br11_0, wp_skip_seq (br_wrong ao n cap at_ _ u hq (ret_bad hS))⟩
set_option maxRecDepth 20000 in
set_option maxHeartbeats 4000000 in
theorem br_yes (ao : Option Addr) (n cap at_ : Nat) (z : Nat → Nat) (w : World) (hr : Rd w ao n z) (hn : (n : Int) ≤ 1024) (ha : at_ < n) (h : hasP z n (at_ + 1) 94 = true) : Calls Try.prog 85 #[.slice ao n cap, .int .i64 (at_ : Nat)] w (RetT w (brkG z n at_ true 1100 (at_ + 2) (fun _ => false))) := by
  have HH : Hid (∀ W, Below w.heap.size w W → Calls Try.prog 99 #[.slice ao n cap, .int .i64 ((at_ : Int) + 1), .int .u8 94] W fun e w' => e = .returned (.bool true) ∧ w' = W) := has_at ao n cap at_ 1 94 z w hr true h
  have h2 := hasP_lt h
  clear h
  obtain ⟨S, hS⟩ : ∃ S, brkG z n at_ true 1100 (at_ + 2) (fun _ => false) = S := ⟨_, rfl⟩
  rw [hS]
  have HS : Hid (brkG z n at_ true 1100 (at_ + 2) (fun _ => false) = S) := hS
  have HL : Hid (∀ l m a W, BrJ w ao n cap at_ true z S l m a W → _) := fun l m a W hJ => br_labels ao n cap at_ z w hr hn ha true S l m a W hJ
  have HP : Hid (∀ (W : World) (tm : Array Value), Fr11 ao n cap at_ w.heap.size tm → Bq w w.heap.size at_ true 0 0 0 0 (at_ + 2) 0 0 0 0 0 W → Code.wp Try.prog (labelIn Try.f85 1) (jumps (fun l' a' w' => ∃ m', m' < 1100 + 2 ∧ BrJ w ao n cap at_ true z S l' m' a' w') (bodyPost Try.prog Try.f85 (RetT w S))) ⟨tm, []⟩ W) := fun W tm ⟨u, e⟩ hq => e ▸ br_pass ao n cap at_ z w hr hn ha (u := u) hq c4_none (by omega) (show n - (at_ + 2) < 1100 by omega) HS.out
  clear hS hr h2
  go_enter Try.func85, Try.ntmps85
  go_wp2_with fail
  refine wp_scope_labels (BrJ w ao n cap at_ true z S) ?_ (fun l m a W hJ => HL.out l m a W hJ)
  go_wp2_with fail
  refine (HH.out _ (bel2 _ _ _)).mono ?_
  rintro e w1 ⟨rfl, rfl⟩
  go_wp2_with fail
  go_step3
  rename_i K hK
  refine hK _ _ ?_
  clear hK
  refine Code.wp_mono (jumps_mono (fun l a w hq => ?_)) (HP.out _ _ (Fr11.of _ rfl) (bq_start w at_ true (at_ + 2)))
  obtain ⟨m, _, hm⟩ := hq
  exact ⟨m, hm⟩
set_option maxRecDepth 20000 in
set_option maxHeartbeats 4000000 in
theorem br_no (ao : Option Addr) (n cap at_ : Nat) (z : Nat → Nat) (w : World) (hr : Rd w ao n z) (hn : (n : Int) ≤ 1024) (ha : at_ < n) (h : hasP z n (at_ + 1) 94 = false) : Calls Try.prog 85 #[.slice ao n cap, .int .i64 (at_ : Nat)] w (RetT w (brkG z n at_ false 1100 (at_ + 1) (fun _ => false))) := by
  have HH : Hid (∀ W, Below w.heap.size w W → Calls Try.prog 99 #[.slice ao n cap, .int .i64 ((at_ : Int) + 1), .int .u8 94] W fun e w' => e = .returned (.bool false) ∧ w' = W) := has_at ao n cap at_ 1 94 z w hr false h
  clear h
  obtain ⟨S, hS⟩ : ∃ S, brkG z n at_ false 1100 (at_ + 1) (fun _ => false) = S := ⟨_, rfl⟩
  rw [hS]
  have HS : Hid (brkG z n at_ false 1100 (at_ + 1) (fun _ => false) = S) := hS
  have HL : Hid (∀ l m a W, BrJ w ao n cap at_ false z S l m a W → _) := fun l m a W hJ => br_labels ao n cap at_ z w hr hn ha false S l m a W hJ
  have HP : Hid (∀ (W : World) (tm : Array Value), Fr11 ao n cap at_ w.heap.size tm → Bq w w.heap.size at_ false 0 0 0 0 (at_ + 1) 0 0 0 0 0 W → Code.wp Try.prog (labelIn Try.f85 1) (jumps (fun l' a' w' => ∃ m', m' < 1100 + 2 ∧ BrJ w ao n cap at_ false z S l' m' a' w') (bodyPost Try.prog Try.f85 (RetT w S))) ⟨tm, []⟩ W) := fun W tm ⟨u, e⟩ hq => e ▸ br_pass ao n cap at_ z w hr hn ha (u := u) hq c4_none (by omega) (show n - (at_ + 1) < 1100 by omega) HS.out
  clear hS hr
  go_enter Try.func85, Try.ntmps85
  go_wp2_with fail
  refine wp_scope_labels (BrJ w ao n cap at_ false z S) ?_ (fun l m a W hJ => HL.out l m a W hJ)
  go_wp2_with fail
  refine (HH.out _ (bel2 _ _ _)).mono ?_
  rintro e w1 ⟨rfl, rfl⟩
  go_wp2_with fail
  go_step3
  rename_i K hK
  refine hK _ _ ?_
  clear hK
  refine Code.wp_mono (jumps_mono (fun l a w hq => ?_)) (HP.out _ _ (Fr11.of _ rfl) (bq_start w at_ false (at_ + 1)))
  obtain ⟨m, _, hm⟩ := hq
  exact ⟨m, hm⟩
theorem bracket_any (ao : Option Addr) (n cap at_ : Nat) (z : Nat → Nat) (w : World) (hr : Rd w ao n z) (hn : (n : Int) ≤ 1024) (ha : at_ < n) : Calls Try.prog 85 #[.slice ao n cap, .int .i64 (at_ : Nat)] w (RetT w (brkS z n at_)) := by
  unfold brkS
  cases h : hasP z n (at_ + 1) 94 with
  | true => rw [if_pos rfl]; exact br_yes ao n cap at_ z w hr hn ha h
  | false => rw [if_neg (by decide)]; exact br_no ao n cap at_ z w hr hn ha h
theorem word_whole (ao : Option Addr) (n cap at_ : Nat) (z : Nat → Nat) (w : World) (hr : Rd w ao n z) (hn : (n : Int) ≤ 1024) (ha : at_ < n) : Calls Try.prog 77 #[.slice ao n cap, .int .i64 (at_ : Nat)] w (RetT w (wrd z n at_)) :=
  word_t ao n cap at_ z w hr hn ha (brkS z n at_) fun _ W hb => bracket_any ao n cap at_ z W (hr.below hb) hn ha
end Go.Proofs.Ytlmmiicibjfcdaa
