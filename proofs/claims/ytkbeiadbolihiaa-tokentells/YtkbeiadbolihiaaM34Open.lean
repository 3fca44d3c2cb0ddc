/- TokenTells: the walk of the law, given what the reference's first says. The law TokenTells. Arguments that came in: slices of bytes, as the walks take them. -/
import Derived.Test.YtkbeiadbolihiaaM27Xq
import Derived.Test.YtkbeiadbolihiaaM33Cb
import Derived.Deep.RegionHeld3
import Derived.Test.YtkbeiadbolihiaaM31Xz
import Derived.Test.YtkbeiadbolihiaaRows
import Derived.Test.YtkbeiadbolihiaaM00Rng
import Derived.ProofKit
import Derived.OpenShut
import Derived.Lib.SmallJoins
namespace Go.Proofs.Ytkbeiadbolihiaa
open Go.RowKit Go.Shelf
theorem tokL_take : ∀ (ts : List TokS) (k : Nat), (tokL ts).take (k * 11) = tokL (ts.take k)
  | [], k => by simp [tokL]
  | t :: ts, 0 => by simp [tokL]
  | t :: ts, k + 1 => by
    have h := tokL_take ts k
    have e : (k + 1) * 11 = (tokC t).length + k * 11 := by simp [tokC]; omega
    unfold tokL at *
    rw [List.flatMap_cons, List.take_succ_cons, List.flatMap_cons, e, List.take_length_add_append, h]
theorem tokL_len : ∀ (ts : List TokS), (tokL ts).length = ts.length * 11
  | [] => rfl
  | t :: ts => by
    have h := tokL_len ts
    unfold tokL at *
    rw [List.flatMap_cons, List.length_append, h, List.length_cons]
    simp [tokC]; omega
/-- The first tokens of a row. -/
theorem row_take {W : World} {base n cap k : Nat} {ao : Option Addr} {ts : List TokS} (h : W.ownsRow base 33 11 (.slice ao n cap) n (tokL ts)) (hk : k ≤ n) : W.ownsRow base 33 11 (.slice ao k cap) k (tokL (ts.take k)) := by
  have hl : ts.length = n := by have := h.1; rw [tokL_len] at this; omega
  refine ⟨by rw [tokL_len, List.length_take]; omega, ?_⟩
  rcases h.2 with ⟨e, h0⟩ | ⟨g, cap', cur, e, hb, hg, h1, h2, h3, h4⟩
  · obtain ⟨rfl, -, rfl⟩ : ao = none ∧ n = 0 ∧ cap = 0 := by simpa using e
    exact .inl ⟨by rw [show k = 0 by omega], by omega⟩
  · obtain ⟨rfl, -, rfl⟩ : ao = some ⟨g, 0, none⟩ ∧ n = n ∧ cap = cap' := by simpa using e
    refine .inr ⟨g, cap, cur, rfl, hb, hg, by omega, h2, h3, ?_⟩
    rw [← tokL_take, ← h4, List.take_take, Nat.min_eq_left (Nat.mul_le_mul_right _ hk)]
theorem row_cap {B : Nat} {w : World} {ao : Option Addr} {n cap : Nat} {xs : List Value} (h : w.ownsRow B 33 11 (.slice ao n cap) n xs) : n ≤ cap := by
  rcases h.2 with ⟨h', h0⟩ | ⟨g, cap', cur, e, _, _, hc, _⟩
  · omega
  · obtain ⟨-, -, rfl⟩ : ao = some ⟨g, 0, none⟩ ∧ n = n ∧ cap = cap' := by simpa using e
    exact hc
theorem high23 (ao : Option Addr) (n cap x : Nat) (hx : x ≤ cap) (w : World) : (Instr.slice 23 (.slice ao n cap) none (some (.int .i64 (x : Nat))) none).run Try.prog w = .ok (.slice ao x cap) w := by
  have hxc : (x : Int) ≤ (cap : Int) := by omega
  have hs : ∀ w, (Go.sizeOf 33).run Try.prog w = .ok 11 w := fun w => by kernel_rfl
  by_cases h : cap = 0
  · subst h
    obtain rfl : x = 0 := by omega
    simp [go_sem, Try.underlying23, hs]
  · simp [go_sem, Try.underlying23, hxc, h, hs]
theorem min_tells (n x k : Nat) (h : k = min n x) (w : World) : (Builtin.min_ #[3, 3] 3 #[.int .i64 (n : Nat), .int .i64 (x : Nat)]).run Try.prog w = .ok (.int .i64 (k : Nat)) w := by
  rw [run_min_int2]
  subst h
  congr 2
  split <;> omega
theorem conv53n (x : Nat) (hx : x < 256) (W : World) : (convert 5 3 (.int .u8 (x : Nat))).run Try.prog W = .ok (.int .i64 (x : Nat)) W := by
  have hk : Try.prog.intKind 3 = .i64 := by kernel_rfl
  rw [run_convert_int W 5 3 .u8 _ (by rw [Try.underlying5]; rfl) (by rw [hk]; exact Try.underlying3), hk]
  rw [show IntKind.i64.wrap (x : Int) = (x : Int) by rw [IntKind.wrap_i64]; omega]
/-- told of the iterator of Tokens. -/
theorem told_tok (bp mo : Nat) (ao : Option Addr) (n cap : Nat) (z : Nat → Nat) (w : World) (hp : Cl w bp 22 [.slice ao n cap]) (hr : Rd w ao n z) (hn : (n : Int) ≤ 1024) :
    Calls Try.prog 10 #[.func (.func 15) #[] #[.pointer (some ⟨bp, 0, none⟩)], .int .i64 (mo : Nat)] w (RetTl w ((good (wl z n 1100 0)).take mo)) :=
  told_any bp mo _ w (tokens_seq (w.heap.size + 2) bp ao n cap z w _ hp hr hn (by omega) fun k hk => (bel2 w _ _).block k hk)
/-- Tokens, of a length with a name. -/
def RetT2 (w : World) (l : List TokS) (n : Nat) (e : Ending) (w' : World) : Prop := ∃ ao cap, e = .returned (.slice ao n cap) ∧ w'.ownsRow w.heap.size 33 11 (.slice ao n cap) n (tokL l) ∧ Below w.heap.size w w'
theorem retT2 {w : World} {l : List TokS} {n : Nat} (h : l.length = n) (e : Ending) (w' : World) (hr : RetTl w l e w') : RetT2 w l n e w' := by subst h; exact hr
set_option maxHeartbeats 1000000 in
theorem rtokens_long (ao : Option Addr) (n cap : Nat) (w : World) (hn : (n : Int) > 1024) : Calls Try.prog 9 #[.slice ao n cap] w (RetTl w []) := by
  go_enter Try.func9, Try.ntmps9
  go_wp2
  go_ret
  exact ⟨none, 0, rfl, World.ownsRow_nil _ _ _ _, Below.refl _ _⟩
set_option maxRecDepth 20000 in
set_option maxHeartbeats 2000000 in
theorem rtokens_short (ao : Option Addr) (n cap : Nat) (z : Nat → Nat) (w : World) (hn : (n : Int) ≤ 1024) (hF : Calls Try.prog 13 #[.slice ao n cap] w (RetF w z n)) : Calls Try.prog 9 #[.slice ao n cap] w (RetTl w (good (wl z n 1100 0))) := by
  have hgt : ¬ ((n : Int) > 1024) := by omega
  go_enter Try.func9, Try.ntmps9
  go_wp2_with fail
  refine hF.mono ?_
  rintro e w1 ⟨pre, ao', cap', hg, hrow, hb, ⟨hw, rfl⟩ | ⟨s, hs, hw, rfl⟩⟩
  · have HR : Hid (RetTl w (good (wl z n 1100 0)) (.returned (.slice ao' pre.length cap')) w1) := by
      rw [hw, good_all hg]
      exact ⟨ao', cap', rfl, hrow, hb⟩
    clear hg hrow hb hw hF
    generalize pre.length = len at *
    go_wp2
    go_ret
    exact HR.out
  · have HR : Hid (RetTl w (good (wl z n 1100 0)) (.returned (.slice ao' pre.length cap')) w1) := by
      rw [good_cut (p := pre) (x := s) ⟨[], by rw [hw]; simp⟩ hg hs]
      exact ⟨ao', cap', rfl, hrow, hb⟩
    clear hg hrow hb hw hF hs
    generalize pre.length = len at *
    go_wp2
    go_ret
    exact HR.out
/-- The list of the tokens, as it was laid. -/
structure TT (w : World) (v : Value) (n : Nat) (l : List TokS) (W : World) : Prop where
  bel : Below w.heap.size w W
  own : W.ownsRow w.heap.size 33 11 v n (tokL l)
theorem TT.next {w W W' : World} {v : Value} {n : Nat} {l : List TokS} (t : TT w v n l W) (hb : Below W.heap.size W W') : TT w v n l W' :=
  ⟨t.bel.trans (hb.mono t.bel.size), ownsRow_at t.own fun g _ hg => hb.block g hg⟩
set_option maxRecDepth 100000 in
set_option maxHeartbeats 8000000 in
theorem tells_walk (ao : Option Addr) (n cap x n' : Nat) (z : Nat → Nat) (hx : x < 256) (hn' : (n' : Int) ≤ 1024) (w : World)
    (hR : Calls Try.prog 9 #[.slice ao n cap] w (RetTl w (good (wl z n' 1100 0)))) (hT : ∀ W, Below w.heap.size w W → Calls Try.prog 11 #[.slice ao n cap] W (RetTk W n' z)) :
    Calls Try.prog 4 #[.slice ao n cap, .int .u8 (x : Nat)] w (RetB w true) := by
  have hlen : (good (wl z n' 1100 0)).length ≤ 1100 := Nat.le_trans (List.takeWhile_sublist _).length_le (wl_len _ _)
  have H10 : ∀ bp ao1 cap1 mo W, Cl W bp 22 [.slice ao1 n' cap1] → Rd W ao1 n' z → Calls Try.prog 10 #[.func (.func 15) #[] #[.pointer (some ⟨bp, 0, none⟩)], .int .i64 (mo : Nat)] W (RetTl W ((good (wl z n' 1100 0)).take mo)) := fun bp ao1 cap1 mo W hp hr => told_tok bp mo ao1 n' cap1 z W hp hr hn'
  generalize good (wl z n' 1100 0) = R at *
  obtain ⟨N, hN⟩ : ∃ N, R.length = N := ⟨_, rfl⟩
  obtain ⟨K, hK⟩ : ∃ K, K = min N x := ⟨_, rfl⟩
  obtain ⟨Q, hQ⟩ : ∃ Q, Q = R.take K := ⟨_, rfl⟩
  have hQl : Q.length = K := by rw [hQ, List.length_take, hN]; omega
  have hQx : R.take x = Q := by
    rw [hQ, hK]
    by_cases h : x ≤ N
    · rw [Nat.min_eq_right h]
    · rw [Nat.min_eq_left (by omega), ← hN, List.take_length, List.take_of_length_le (by omega)]
  have hR0 : R.take 65536 = R := List.take_of_length_le (by omega)
  have h10 : Hid (∀ bp ao1 cap1 W, Cl W bp 22 [.slice ao1 n' cap1] → Rd W ao1 n' z → Calls Try.prog 10 #[.func (.func 15) #[] #[.pointer (some ⟨bp, 0, none⟩)], .int .i64 65536] W (RetT2 W R N)) := fun bp ao1 cap1 W hp hr => by
    have := H10 bp ao1 cap1 65536 W hp hr
    rw [hR0] at this
    exact this.mono (retT2 hN)
  have h10' : Hid (∀ bp ao1 cap1 W, Cl W bp 22 [.slice ao1 n' cap1] → Rd W ao1 n' z → Calls Try.prog 10 #[.func (.func 15) #[] #[.pointer (some ⟨bp, 0, none⟩)], .int .i64 (x : Nat)] W (RetT2 W Q K)) := fun bp ao1 cap1 W hp hr => by
    have := H10 bp ao1 cap1 x W hp hr
    rw [hQx] at this
    exact this.mono (retT2 hQl)
  have h8 : Hid (∀ W B1 B2 ao1 ao2 c1 c2, W.ownsRow B1 33 11 (.slice ao1 N c1) N (tokL R) → W.ownsRow B2 33 11 (.slice ao2 N c2) N (tokL R) → Calls Try.prog 8 #[.slice ao1 N c1, .slice ao2 N c2] W fun e w' => e = .returned (.bool true) ∧ Below W.heap.size W w') := fun W B1 B2 ao1 ao2 c1 c2 h1 h2 => (equalT_same ao1 ao2 N c1 c2 B1 B2 R W h1 h2 hN (by omega)).mono fun e w' ⟨he, q, hw⟩ => ⟨he, by rw [hw]; exact bel_drewN W q⟩
  have h8' : Hid (∀ W B1 B2 ao1 ao2 c1 c2, W.ownsRow B1 33 11 (.slice ao1 K c1) K (tokL Q) → W.ownsRow B2 33 11 (.slice ao2 N c2) N (tokL R) → Calls Try.prog 8 #[.slice ao1 K c1, .slice ao2 K c2] W fun e w' => e = .returned (.bool true) ∧ Below W.heap.size W w') := fun W B1 B2 ao1 ao2 c1 c2 h1 h2 => (equalT_same ao1 ao2 K c1 c2 B1 B2 Q W h1 (by rw [hQ]; exact row_take h2 (by omega)) hQl (by omega)).mono fun e w' ⟨he, q, hw⟩ => ⟨he, by rw [hw]; exact bel_drewN W q⟩
  have h9 : Hid (Calls Try.prog 9 #[.slice ao n cap] w (RetT2 w R N)) := hR.mono (retT2 hN)
  have h11 : Hid (∀ W, Below w.heap.size w W → Calls Try.prog 11 #[.slice ao n cap] W (RetTk W n' z)) := hT
  have hmin := min_tells N x K hK
  have hcv := conv53n x hx
  have hKN : K ≤ N := by omega
  clear H10 hQx hR0 hQl hQ hK hN hlen hR hT
  go_enter Try.func4, Try.ntmps4
  go_wp2_with fail
  refine h9.out.mono ?_
  rintro e w1 ⟨a0, c0, rfl, hown, hb⟩
  have t : TT w (.slice a0 N c0) N R w1 := ⟨hb, hown⟩
  have hcap := row_cap hown
  have hsl := high23 a0 N c0 K (by omega)
  clear hb hown hcap h9
  go_wp2_with fail
  replace t := t.next (Below.refl _ _).drew
  have m1 : Hid True := trivial
  have m2 : Hid True := trivial
  go_region_held3 (fun _ => True) (exact trivial)
    (first
      | (go_at_call 7; refine (begun_any _).mono ?_; rintro en v0 ⟨rfl, q⟩; replace t := t.next q; clear q)
      | (go_at_call 11; refine (h11.out _ t.bel).mono ?_; rintro en v1 ⟨rfl, ao1, cap1, k1, r1, q⟩; replace t := t.next q; clear q)
      | (go_at_call 10; (first | (clear m1; refine (h10.out _ _ _ _ k1 r1).mono ?_) | refine (h10'.out _ _ _ _ k1 r1).mono ?_); clear k1 r1; rintro en v6 ⟨ao3, cap3, rfl, o3, q⟩; replace t := t.next q; clear q)
      | (go_at_call 8; (first | (clear m2; refine (h8.out _ _ _ _ _ _ _ o3 t.own).mono ?_) | refine (h8'.out _ _ _ _ _ _ _ o3 t.own).mono ?_); clear o3; rintro en v7 ⟨rfl, q⟩; replace t := t.next q; clear q))
  all_goals
    go_wp2
    go_ret
    exact ⟨rfl, t.bel⟩
/-- The law's answer, given what brackets says. -/
theorem tells_any (ao : Option Addr) (n cap x : Nat) (z : Nat → Nat) (w : World) (hx : x < 256) (hr : Rd w ao n z) (hs : (ao = none ∧ n = 0 ∧ cap = 0) ∨ ∃ a, ao = some a) (hB : ∀ at_, at_ < n → z at_ = 91 → (n : Int) ≤ 1024 → ∀ W, Below w.heap.size w W → Calls Try.prog 25 #[.slice ao n cap, .int .i64 (at_ : Nat)] W (RetO W (tokOf (brkS z n at_).z) (brkS z n at_).en (brkS z n at_).er)) : Calls Try.prog 4 #[.slice ao n cap, .int .u8 (x : Nat)] w (RetB w true) := by
  by_cases hn : n ≤ 1024
  · exact tells_walk ao n cap x n z hx (by omega) w (rtokens_short ao n cap z w (by omega) (rfirst_any ao n cap z w (by omega) (fun at_ ha V hV => rone_any ao n cap at_ z V (hr.below hV) (by omega) ha (brkS z n at_) fun hq U hU => hB at_ ha hq (by omega) U (hV.trans (hU.mono hV.size)))))
      fun W hb => tokens_short ao n cap z W (hr.below hb) (by omega) hs
  · have e : good (wl z 0 1100 0) = [] := by rw [wlO _ (Nat.zero_le _)]; rfl
    refine tells_walk ao n cap x 0 z hx (by decide) w ?_ fun W hb => tokens_long ao n cap z W (by omega)
    rw [e]
    exact rtokens_long ao n cap w (by omega)
end Go.Proofs.Ytkbeiadbolihiaa
namespace Go.Proofs.Ytkbeiadbolihiaa
open Go.RowKit Go.Shelf
theorem tells_all (ao : Option Addr) (n cap x : Nat) (z : Nat → Nat) (w : World) (hx : x < 256) (hr : Rd w ao n z) (hs : (ao = none ∧ n = 0 ∧ cap = 0) ∨ ∃ a, ao = some a) : Calls Try.prog 4 #[.slice ao n cap, .int .u8 (x : Nat)] w (RetB w true) :=
  tells_any ao n cap x z w hx hr hs fun at_ ha _ hn W hb => brackets_any ao n cap at_ z W (hr.below hb) hn ha
end Go.Proofs.Ytkbeiadbolihiaa
namespace Go.Proofs.Ytkbeiadbolihiaa
open Go.ChangeShapes Go.WideShapes Go.ChangeAt Go.RowKit

theorem Try.own : ownKnob Try.prog.godebug = none := by kernel_rfl
theorem Try.laidOut : laidOutB Try.prog = true := by kernel_rfl
theorem cell_lt {w : World} {a : Addr} {v : Value} (h : w.cell? a = some v) : a.block < w.heap.size := by
  rcases Nat.lt_or_ge a.block w.heap.size with h' | h'
  · exact h'
  · simp [World.cell?, Array.getElem?_eq_none h'] at h
theorem rd_of {H : Type} {enc : TypeId × Value → H} {W : World} {n : Nat} {v : Value} {y : DataW H × List MemPlace} (h : DataW.trod enc Try.prog W 0 (fun _ => true) true n 22 [v] = some y) :
    ∃ ao len cap f, v = .slice ao len cap ∧ Rd W ao len f ∧ len ≤ cap ∧ ((ao = none ∧ len = 0 ∧ cap = 0) ∨ ∃ elems spare, y.1 = .slice elems spare ∧ elems.length = len ∧ ∃ a, ao = some a) := by
  rcases open_ints Try.underlying22 Try.underlying5 (by kernel_rfl) h with ⟨hcs, _⟩ | ⟨x, l, c, zs, hcs, hlc, hl, hm, hz, hx, hcell, hwz⟩
  · simp at hcs
    exact ⟨none, 0, 0, fun _ => 0, hcs, ⟨fun i hi => by omega, fun h => by omega⟩, Nat.le_refl _, .inl ⟨rfl, rfl, rfl⟩⟩
  · simp only [if_true] at hz
    simp at hcs
    have hb : ∀ i, i < zs.length → 0 ≤ zs.getD i 0 ∧ zs.getD i 0 < 256 := by
      intro i hi
      have hmem : zs.getD i 0 ∈ zs := by rw [List.getD_eq_getElem?_getD, List.getElem?_eq_getElem hi]; exact List.getElem_mem hi
      have := hwz _ hmem
      generalize zs.getD i 0 = x0 at *
      simp [Lit.wf, IntKind.min, IntKind.max, IntKind.signed, IntKind.bits] at this
      omega
    refine ⟨some x, l, c, fun i => (zs.getD i 0).toNat, hcs, ⟨fun i hi => ?_, fun h0 => ?_⟩, by omega, .inr ⟨_, _, by rw [hx], ?_, _, rfl⟩⟩
    · have := hb i (by omega); omega
    · obtain ⟨b, off, spot⟩ := x
      have hc := hcell 0 (by omega)
      have hspot : spot = none := by simpa [Addr.add] using World.cell?_spot hc
      subst hspot
      have hbb : b < W.heap.size := by have := cell_lt hc; simpa [Addr.add] using this
      refine ⟨b, off, rfl, hbb, fun i hi => ?_⟩
      have hci := hcell i (by omega)
      have e : (((zs.getD i 0).toNat : Nat) : Int) = zs.getD i 0 := Int.toNat_of_nonneg (hb i (by omega)).1
      rw [e]
      by_cases hi0 : i = 0
      · subst hi0; simpa [Addr.add] using hci
      · simpa [Addr.add, hi0] using hci
    · simp [lits]; omega
end Go.Proofs.Ytkbeiadbolihiaa
