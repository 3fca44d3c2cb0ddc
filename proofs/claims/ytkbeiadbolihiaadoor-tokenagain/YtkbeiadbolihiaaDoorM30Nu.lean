/- token: what is lexed may be: plain facts. The reference of token: num: the walk. -/
import Derived.Test.YtkbeiadbolihiaaDoorM29Ba
import Derived.Test.YtkbeiadbolihiaaDoorM20Bt
import Derived.Test.YtkbeiadbolihiaaDoorM24Lt
namespace Go.Proofs.YtkbeiadbolihiaaDoor
open Go.RowKit
/-- What is lexed may be. -/
def TokS.may (s : TokS) : Bool := chk s.k s.b s.P s.nt s.l s.m s.lz s.at_
theorem none_eq : eqC (fun _ => false) (fun _ => false) = true := (eqC_iff _ _).2 fun _ _ => rfl
theorem chk_sgn {k : Nat} {b at_ en : Nat} (h : k = 1 ∨ (b = 0 ∧ (k = 3 ∨ k = 4 ∨ k = 5 ∨ k = 6 ∨ k = 8 ∨ k = 9))) : (TokS.sgn k b at_ en).may = true := by
  show chk (k : Int) b (fun _ => false) false 0 0 false (at_ : Int) = true
  unfold chk
  rw [none_eq]
  rcases h with rfl | ⟨rfl, rfl | rfl | rfl | rfl | rfl | rfl⟩ <;> simp
theorem chk_cls {P : Nat → Bool} {nt : Bool} {at_ en : Nat} (h : mayP P nt = true) : (TokS.cls P nt at_ en).may = true := by
  show chk 2 0 P nt 0 0 false (at_ : Int) = true
  unfold chk
  simp [h]
theorem chk_rep {l m : Int} {lz : Bool} {at_ en : Nat} (h : repP l m = true) : (TokS.rep l m lz at_ en).may = true := by
  show chk 7 0 (fun _ => false) false l m lz (at_ : Int) = true
  unfold chk
  rw [none_eq]
  simp [h]
set_option maxRecDepth 100000 in
theorem nam_may : ∀ c ∈ [100, 119, 115, 68, 87, 83], mayP (namP c) false = true := by decide
theorem esc_chk {z : Nat → Nat} {n i : Nat} (hz : ∀ i, i < n → z i < 256) (e : (escS z n i).er = 0) : (escS z n i).may = true ∧ (escS z n i).b < 256 := by
  unfold escS at e ⊢
  split at e
  · cases e
  rename_i h0
  rw [if_neg h0]
  split at e
  · rename_i h1
    rw [if_pos h1]
    refine ⟨chk_cls ?_, by show 0 < 256; omega⟩
    rcases h1 with h | h | h | h | h | h <;> rw [h] <;> exact nam_may _ (by simp)
  rename_i h1
  rw [if_neg h1]
  split at e
  · rename_i h2
    rw [if_pos h2]; exact ⟨chk_sgn (.inl rfl), by show 10 < 256; omega⟩
  rename_i h2
  rw [if_neg h2]
  split at e
  · rename_i h3
    rw [if_pos h3]; exact ⟨chk_sgn (.inl rfl), by show 13 < 256; omega⟩
  rename_i h3
  rw [if_neg h3]
  split at e
  · rename_i h4
    rw [if_pos h4]; exact ⟨chk_sgn (.inl rfl), by show 9 < 256; omega⟩
  rename_i h4
  rw [if_neg h4]
  split at e
  · rename_i h5
    rw [if_pos h5]
    split at e
    · rename_i h6
      rw [if_pos h6]
      exact ⟨chk_sgn (.inl rfl), hexV_lt _ _ _⟩
    · cases e
  rename_i h5
  rw [if_neg h5]
  split at e
  · cases e
  rename_i h6
  rw [if_neg h6]
  split at e
  · cases e
  rename_i h7
  rw [if_neg h7]
  exact ⟨chk_sgn (.inl rfl), hz _ (by omega)⟩
theorem brkG_chk {z : Nat → Nat} {n at_ : Nat} {nt : Bool} : ∀ f i P, (brkG z n at_ nt f i P).er = 0 → (brkG z n at_ nt f i P).may = true ∧ (brkG z n at_ nt f i P).b < 256 := by
  intro f
  induction f with
  | zero => intro i P e; cases e
  | succ f ih =>
    intro i P e
    rw [brkG] at e ⊢
    split at e
    · cases e
    rename_i h0
    rw [if_neg h0]
    split at e
    · rename_i h1
      rw [if_pos h1]
      split at e
      · rename_i h2
        rw [if_pos h2]
        exact ⟨chk_cls h2, by show 0 < 256; omega⟩
      · cases e
    rename_i h1
    rw [if_neg h1]
    split at e
    · rename_i h2
      exact absurd e h2
    · rename_i h2
      rw [if_neg h2]
      exact ih _ _ e
theorem num_ok {z : Nat → Nat} {n k : Nat} (h : numOk z n k = true) : (numR z n k).1 ≤ 1000 := by
  unfold numOk at h
  simp only [Bool.and_eq_true, decide_eq_true_eq] at h
  exact h.1.2
theorem rep_ok {l : Nat} {m : Int} (hl : l ≤ 1000) (hm : m = -1 ∨ ((l : Int) ≤ m ∧ m ≤ 1000)) : repP l m = true := by
  unfold repP
  simp only [Bool.and_eq_true, decide_eq_true_eq]
  split <;> omega
theorem cnt_chk {z : Nat → Nat} {n k : Nat} (e : (cntV z n k).2.2.2 = 0) : repP (cntV z n k).1 (cntV z n k).2.1 = true := by
  unfold cntV at e ⊢
  split at e
  · cases e
  rename_i h0
  rw [if_neg h0]
  have h0' : numOk z n (k + 1) = true := by simpa using h0
  have h1 := num_ok h0'
  split at e
  · rename_i h2
    rw [if_pos h2]
    exact rep_ok h1 (.inr ⟨by dsimp only; omega, by dsimp only; omega⟩)
  rename_i h2
  rw [if_neg h2]
  split at e
  · cases e
  rename_i h3
  rw [if_neg h3]
  split at e
  · rename_i h4
    rw [if_pos h4]
    exact rep_ok h1 (.inl rfl)
  rename_i h4
  rw [if_neg h4]
  split at e
  · cases e
  rename_i h5
  rw [if_neg h5]
  split at e
  · cases e
  rename_i h6
  rw [if_neg h6]
  split at e
  · cases e
  rename_i h7
  rw [if_neg h7]
  simpa using h6
theorem rpt_chk {z : Nat → Nat} {n k : Nat} (e : (rptS z n k).er = 0) : (rptS z n k).may = true ∧ (rptS z n k).b < 256 := by
  have key : (repS z n k).2.2.2 = 0 → repP (repS z n k).1 (repS z n k).2.1 = true := by
    intro e
    unfold repS at e ⊢
    split at e
    · rename_i h; rw [if_pos h]; exact (by decide : repP 1 (-1) = true)
    rename_i h; rw [if_neg h]
    split at e
    · rename_i h; rw [if_pos h]; exact (by decide : repP 0 (-1) = true)
    rename_i h; rw [if_neg h]
    split at e
    · rename_i h; rw [if_pos h]; exact (by decide : repP 0 1 = true)
    rename_i h; rw [if_neg h]
    exact cnt_chk e
  unfold rptS at e ⊢
  split at e
  · rename_i h; exact absurd e h
  rename_i h
  rw [if_neg h]
  have h' : (repS z n k).2.2.2 = 0 := Classical.byContradiction h
  split at e
  · rename_i h2
    rw [if_pos h2]
    exact ⟨chk_rep (key h'), by show 0 < 256; omega⟩
  · rename_i h2
    rw [if_neg h2]
    exact ⟨chk_rep (key h'), by show 0 < 256; omega⟩
theorem sgn_chk {z : Nat → Nat} {k : Nat} (hz : z k < 256) : (sgnS z k).may = true ∧ (sgnS z k).b < 256 := by
  unfold sgnS
  refine ⟨chk_sgn ?_, by show (if signK (z k) = 1 then z k else 0) < 256; split <;> omega⟩
  unfold signK
  repeat' split
  all_goals simp_all
theorem wrd_chk {z : Nat → Nat} {n k : Nat} (hz : ∀ i, i < n → z i < 256) (hk : k < n) (e : (wrd z n k).er = 0) : (wrd z n k).may = true ∧ (wrd z n k).b < 256 := by
  unfold wrd wrdS at e ⊢
  split at e
  · rename_i h; rw [if_pos h]; exact esc_chk hz e
  rename_i h; rw [if_neg h]
  split at e
  · rename_i h; rw [if_pos h]; exact brkG_chk _ _ _ e
  rename_i h; rw [if_neg h]
  split at e
  · rename_i h; rw [if_pos h]
    unfold opnS at e ⊢
    split at e
    · rename_i h2; rw [if_pos h2]; exact ⟨chk_sgn (k := 4) (.inr ⟨rfl, by omega⟩), by show 0 < 256; omega⟩
    rename_i h2; rw [if_neg h2]
    split at e
    · rename_i h3; rw [if_pos h3]; exact ⟨chk_sgn (k := 4) (.inr ⟨rfl, by omega⟩), by show 0 < 256; omega⟩
    · cases e
  rename_i h; rw [if_neg h]
  split at e
  · rename_i h; rw [if_pos h]; exact rpt_chk e
  rename_i h; rw [if_neg h]
  exact sgn_chk (hz k hk)
theorem wl_chk {z : Nat → Nat} {n : Nat} (hz : ∀ i, i < n → z i < 256) : ∀ (f i : Nat), ∀ s ∈ wl z n f i, s.er = 0 → s.may = true ∧ s.b < 256
  | 0, _, s, h, _ => by cases h
  | f + 1, i, s, h, e => by
    rw [wl] at h
    split at h
    · cases h
    rename_i hi
    rcases List.mem_cons.1 h with rfl | h
    · exact wrd_chk hz (by omega) e
    · split at h
      · exact wl_chk hz f _ s h e
      · cases h
end Go.Proofs.YtkbeiadbolihiaaDoor
namespace Go.Proofs.YtkbeiadbolihiaaDoor
open Go.RowKit Go.Shelf
theorem conv_dig (w : World) (x : Nat) : (convert 34 9 (.slice (some ⟨w.heap.size, 0, none⟩) 1 1)).run Tryd.prog (w.alloc (.cells #[.int .u8 (x : Nat)] 5)) = .ok (.string ⟨#[x.toUInt8]⟩) (w.alloc (.cells #[.int .u8 (x : Nat)] 5)) := by
  rw [run_convert_bytes_arg _ 34 5 Tryd.underlying34 Tryd.underlying5 w.heap.size 0 1 1 [(x : Int)] rfl (fun i hi => ?_) 9 Tryd.underlying9]
  · congr 2
  · obtain rfl : i = 0 := by omega
    exact (Cl.new w 5 [.int .u8 (x : Nat)]).cell 0 rfl
theorem dec_small (n : Nat) (h : n < 10) : Lib.decDigits n = [(48 + n).toUInt8] := by
  rw [Lib.decDigits, dif_pos h]
theorem dec_more (n : Nat) (h : ¬ n < 10) : Lib.decDigits n = Lib.decDigits (n / 10) ++ [(48 + n % 10).toUInt8] := by
  rw [Lib.decDigits, dif_neg h]
/-- What num has written, and what is left. -/
structure NuI (w : World) (N n : Nat) (S : List UInt8) (wr : World) : Prop where
  le : n ≤ 1000
  all : (S = [] ∧ n = N) ∨ (S ≠ [] ∧ (n = 0 → Lib.decDigits N = S) ∧ (0 < n → Lib.decDigits N = Lib.decDigits n ++ S))
  bel : Below w.heap.size w wr
theorem NuI.next {w wr : World} {N n : Nat} {S : List UInt8} (h : NuI w N n S wr) (hgo : 0 < n ∨ S = []) {wr' : World} (hb : Below w.heap.size w wr') : NuI w N (n / 10) ((48 + n % 10).toUInt8 :: S) wr' := by
  refine ⟨by have := h.le; omega, .inr ⟨by simp, fun h0 => ?_, fun h0 => ?_⟩, hb⟩
  · have hn : n < 10 := by omega
    have e := dec_small n hn
    rw [show n % 10 = n by omega]
    rcases h.all with ⟨rfl, rfl⟩ | ⟨hS, h1, h2⟩
    · exact e
    · rcases hgo with hg | hg
      · rw [h2 hg, e]; rfl
      · exact absurd hg hS
  · have hn : ¬ n < 10 := by omega
    have e := dec_more n hn
    rcases h.all with ⟨rfl, rfl⟩ | ⟨hS, h1, h2⟩
    · exact e
    · rw [h2 (by omega), e, List.append_assoc]; rfl
theorem NuI.len {w wr : World} {N n : Nat} {S : List UInt8} (h : NuI w N n S wr) (hN : N ≤ 1000) : S.length ≤ 4 := by
  have hd := dec_len N hN
  rcases h.all with ⟨rfl, _⟩ | ⟨hS, h1, h2⟩
  · simp
  · by_cases h0 : n = 0
    · rw [← h1 h0]; exact hd
    · have := h2 (by omega)
      rw [this, List.length_append] at hd
      omega
/-- One for a text of no bytes. -/
def emp : Value → Nat
  | .string s => if s.size = 0 then 1 else 0
  | _ => 0
set_option maxRecDepth 20000 in
set_option maxHeartbeats 2000000 in
theorem num_any (N : Nat) (hN : N ≤ 1000) (w : World) : Calls Tryd.prog 45 #[.int .i64 (N : Nat)] w (RetS w (Lib.decDigits N)) := by
  have hI0 : NuI w N N [] w := ⟨hN, .inl ⟨rfl, rfl⟩, Below.refl _ _⟩
  go_enter Tryd.func45, Tryd.ntmps45
  go_wp2
  go_loopw [0, 3] (fun i u wr => ∃ (n : Nat) (S : List UInt8), i = .int .i64 (n : Nat) ∧ u = .string ⟨S.toArray⟩ ∧ NuI w N n S wr) (fun i u _ => (intOf i).toNat + emp u)
  case atStart => exact ⟨N, [], rfl, rfl, hI0⟩
  case round =>
    obtain ⟨n, S, rfl, rfl, hI⟩ := hrel
    clear hI0
    have hlen := hI.len hN
    have hle := hI.le
    have ex : ((48 + n % 10 : Nat) : Int) = 48 + (n : Int) % 10 := by omega
    have hc1 : ∀ W : World, (convert 34 9 (.slice (some ⟨W.heap.size, 0, none⟩) 1 1)).run Tryd.prog (W.alloc (.cells #[.int .u8 (48 + (n : Int) % 10)] 5)) = .ok (.string ⟨#[(48 + n % 10).toUInt8]⟩) (W.alloc (.cells #[.int .u8 (48 + (n : Int) % 10)] 5)) := fun W => by
      rw [← ex]; exact conv_dig W (48 + n % 10)
    have hs1 : (⟨#[(48 + n % 10).toUInt8]⟩ : ByteArray).size = 1 := rfl
    obtain ⟨U, hU⟩ : ∃ U : ByteArray, U = ⟨S.toArray⟩ := ⟨_, rfl⟩
    have hsz : U.size ≤ 4 := by rw [hU, size_str]; exact hlen
    have hst : Hid ((⟨#[(48 + n % 10).toUInt8]⟩ : ByteArray) ++ U = ⟨((48 + n % 10).toUInt8 :: S).toArray⟩) := by
      show (⟨#[(48 + n % 10).toUInt8]⟩ : ByteArray) ++ U = ⟨((48 + n % 10).toUInt8 :: S).toArray⟩
      rw [hU]; exact str_app [(48 + n % 10).toUInt8] S
    have HQ : Hid ((n : Int) / 10 = ((n / 10 : Nat) : Int)) := by show (n : Int) / 10 = ((n / 10 : Nat) : Int); omega
    have HB : Hid (Below w.heap.size w (wr.alloc (.cells #[.int .u8 (48 + (n : Int) % 10)] 5))) := hI.bel.alloc hI.bel.size _
    have HN : Hid (∀ wr', (0 < n ∨ S = []) → Below w.heap.size w wr' → NuI w N (n / 10) ((48 + n % 10).toUInt8 :: S) wr') := fun wr' hgo hb => hI.next hgo hb
    have HF : Hid (n = 0 → S ≠ [] → RetS w (Lib.decDigits N) (.returned (.string ⟨S.toArray⟩)) wr) := fun h0 hS => by
      rcases hI.all with ⟨h1, _⟩ | ⟨_, h1, _⟩
      · exact absurd h1 hS
      · rw [h1 h0]; exact ⟨rfl, hI.bel⟩
    have hem : Hid (emp (.string ⟨((48 + n % 10).toUInt8 :: S).toArray⟩) = 0) := by
      show (if (⟨((48 + n % 10).toUInt8 :: S).toArray⟩ : ByteArray).size = 0 then 1 else 0) = 0
      rw [size_str, if_neg (by simp)]
    have hem0 : Hid (S = [] → emp (.string ⟨S.toArray⟩) = 1) := fun h => by subst h; rfl
    clear ex hlen hI
    generalize (48 + n % 10).toUInt8 = x at *
    obtain ⟨X, hX⟩ : ∃ X : ByteArray, X = ⟨#[x]⟩ := ⟨_, rfl⟩
    rw [← hX] at hc1 hs1 hst
    by_cases h0 : 0 < n
    · have hgt : (n : Int) > 0 := by omega
      rw [← hU]
      clear hX hU
      go_wp2
      go_roundw
      case rel => exact ⟨n / 10, x :: S, by rw [HQ.out], by rw [hst.out], HN.out _ (.inl h0) HB.out⟩
      case measure =>
        rw [hst.out, hem.out]
        simp [intOf]
        omega
    · obtain rfl : n = 0 := by omega
      cases S with
      | nil =>
        obtain rfl : U = ⟨#[]⟩ := hU
        have hs0 : (⟨#[]⟩ : ByteArray).size = 0 := rfl
        have hc2 : ∀ W : World, (convert 34 9 (.slice (some ⟨W.heap.size, 0, none⟩) 1 1)).run Tryd.prog (W.alloc (.cells #[.int .u8 48] 5)) = .ok (.string X) (W.alloc (.cells #[.int .u8 48] 5)) := hc1
        clear hX hc1
        go_wp2
        go_roundw
        case rel => exact ⟨0, [x], rfl, by rw [hst.out], HN.out _ (.inr rfl) HB.out⟩
        case measure =>
          rw [hst.out, hem.out]
          decide
      | cons y S =>
        have hne : (U.toList == ([] : List UInt8)) = false := by
          rw [hU]
          simp [ByteArray.toList_eq]
        rw [← hU]
        have HF2 := HF.out rfl (by simp)
        rw [← hU] at HF2
        have HF3 : Hid (RetS w (Lib.decDigits N) (.returned (.string U)) wr) := HF2
        clear hU HF2 HF hX
        go_wp2
        go_ret
        exact HF3.out
end Go.Proofs.YtkbeiadbolihiaaDoor
