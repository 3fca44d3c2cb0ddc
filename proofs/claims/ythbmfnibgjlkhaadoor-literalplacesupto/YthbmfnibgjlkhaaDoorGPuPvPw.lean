/- Rough bytes and letters: plain. The iterator of the places at which bytes stand: the walk. standing, Places: what they answer. -/
import Derived.Test.YthbmfnibgjlkhaaDoorGPjPkPh
import Derived.Test.YthbmfnibgjlkhaaDoorGPcPdPe
import Derived.Test.YthbmfnibgjlkhaaDoorGPxPfPg
import Derived.Test.YthbmfnibgjlkhaaDoorGTqTzBw
import Derived.Sort.QuietIn
import Derived.Deep.DeepCutAuto
import Derived.Deep.RegionHeld3
import Derived.Laws.EntriesVeiled
namespace Go.Proofs.YthbmfnibgjlkhaaDoor
open K
theorem boN_iff {l : List (Nat × Bool)} {k y : Nat} : boN l k y = true ↔ ∃ i x, i < k ∧ l[i]? = some x ∧ fol x = true ∧ clP x.1 x.2 y = true := by
  induction k with
  | zero => simp [boN]
  | succ k ih =>
    simp only [boN, Bool.or_eq_true, ih]
    constructor
    · rintro (⟨i, x, h1, h2⟩ | h)
      · exact ⟨i, x, by omega, h2⟩
      · cases hx : l[k]? with
        | none => rw [hx] at h; cases h
        | some x =>
          rw [hx] at h
          simp only [Bool.and_eq_true] at h
          exact ⟨k, x, by omega, hx, h.1, h.2⟩
    · rintro ⟨i, x, h1, h2, h3, h4⟩
      by_cases e : i = k
      · subst e
        right
        rw [h2]
        simp [h3, h4]
      · exact .inl ⟨i, x, by omega, h2, h3, h4⟩
theorem sm_or : ∀ s, s < 256 → smB s = true → s ||| 32 = s ∧ (s - 32) ||| 32 = s := by decide +kernel
theorem fol_sm {x : Nat × Bool} (h : fol x = true) : x.2 = true ∧ smB x.1 = true := by
  unfold fol at h
  simpa using h
theorem clP_fol {x : Nat × Bool} (h : fol x = true) {y : Nat} : clP x.1 x.2 y = true ↔ y = x.1 ∨ y = x.1 - 32 := by
  obtain ⟨h1, h2⟩ := fol_sm h
  simp [clP, h1, h2]
theorem clP_nofol {x : Nat × Bool} (h : fol x = false) {y : Nat} : clP x.1 x.2 y = true ↔ y = x.1 := by
  have : (x.2 && smB x.1) = false := h
  simp [clP, this]
/-- What both take. -/
theorem bo_is {l : List (Nat × Bool)} {m y : Nat} (hb : ∀ x ∈ l, x.1 < 256) (h : boN l m y = true) : boN l m (y ||| 32) = true ∧ ∃ s, smB s = true ∧ y ||| 32 = s ∧ (y = s ∨ y = s - 32) := by
  obtain ⟨i, x, h1, h2, h3, h4⟩ := boN_iff.1 h
  have hs := (fol_sm h3).2
  obtain ⟨q1, q2⟩ := sm_or x.1 (hb x (List.mem_of_getElem? h2)) hs
  have e : y ||| 32 = x.1 := by
    rcases (clP_fol h3).1 h4 with rfl | rfl
    · exact q1
    · exact q2
  refine ⟨?_, x.1, hs, e, (clP_fol h3).1 h4⟩
  rw [e]
  exact boN_iff.2 ⟨i, x, h1, h2, h3, (clP_fol h3).2 (.inl rfl)⟩
/-- What a letter takes is roughly its byte. -/
theorem take_rgh {l : List (Nat × Bool)} {m k y : Nat} {x : Nat × Bool} (hb : ∀ x ∈ l, x.1 < 256) (hk : k < m) (hx : l[k]? = some x) (h : clP x.1 x.2 y = true) : rgh (boN l m) x.1 = rgh (boN l m) y := by
  cases hf : fol x with
  | false => rw [(clP_nofol hf).1 h]
  | true =>
    obtain ⟨q1, q2⟩ := sm_or x.1 (hb x (List.mem_of_getElem? hx)) (fol_sm hf).2
    have p1 : boN l m x.1 = true := boN_iff.2 ⟨k, x, hk, hx, hf, (clP_fol hf).2 (.inl rfl)⟩
    have p2 : boN l m y = true := boN_iff.2 ⟨k, x, hk, hx, hf, h⟩
    unfold rgh
    rw [if_pos p1, if_pos p2, q1]
    rcases (clP_fol hf).1 h with rfl | rfl
    · exact q1.symm
    · exact q2.symm
/-- And where no byte is two to a letter, the other way round. -/
theorem rgh_take {l : List (Nat × Bool)} {m k y : Nat} {x : Nat × Bool} (hb : ∀ x ∈ l, x.1 < 256) (hk : k < m) (hx : l[k]? = some x) (hs : anyL (twoW (boN l m)) l m = false) (h : rgh (boN l m) x.1 = rgh (boN l m) y) : clP x.1 x.2 y = true := by
  have htw : twoW (boN l m) x = false := by
    unfold anyL at hs
    rw [List.any_eq_false] at hs
    have := hs x (List.mem_of_getElem? (i := k) (by rw [List.getElem?_take, if_pos hk]; exact hx))
    simpa using this
  unfold rgh at h
  by_cases p1 : boN l m x.1 = true
  · have hf : fol x = true := by
      unfold twoW at htw
      rw [p1] at htw
      simpa using htw
    obtain ⟨q1, q2⟩ := sm_or x.1 (hb x (List.mem_of_getElem? hx)) (fol_sm hf).2
    rw [if_pos p1, q1] at h
    rw [clP_fol hf]
    by_cases p2 : boN l m y = true
    · rw [if_pos p2] at h
      obtain ⟨_, s, _, e, hy⟩ := bo_is hb p2
      rw [e] at h
      rw [h]
      exact hy
    · rw [if_neg p2] at h
      exact .inl h.symm
  · rw [if_neg p1] at h
    by_cases p2 : boN l m y = true
    · rw [if_pos p2] at h
      obtain ⟨p3, _⟩ := bo_is hb p2
      rw [← h] at p3
      exact (p1 p3).elim
    · rw [if_neg p2] at h
      simp [clP, h]
/-- Whether bytes stand at a place. -/
def stB (rl : Nat → Nat) (m : Nat) (rw' : Nat → Nat) (n p : Nat) : Bool := decide (p + m ≤ n) && (List.range m).all fun k => rl k == rw' (p + k)
theorem stB_iff {rl : Nat → Nat} {m : Nat} {rw' : Nat → Nat} {n p : Nat} : stB rl m rw' n p = true ↔ p + m ≤ n ∧ ∀ k, k < m → rl k = rw' (p + k) := by
  simp [stB, List.all_eq_true]
theorem st_at {l : List (Nat × Bool)} {wz : Nat → Nat} {n p : Nat} (hb : ∀ x ∈ l, x.1 < 256) (h : atB l wz n (p : Int) = true) : stB (fun k => rgh (boN l l.length) (byL l k)) l.length (fun i => rgh (boN l l.length) (wz i)) n p = true := by
  obtain ⟨_, h2, h3⟩ := atB_true.1 h
  rw [stB_iff]
  refine ⟨by omega, fun k hk => ?_⟩
  have hx : l[k]? = some l[k] := List.getElem?_eq_getElem hk
  rw [byL_at hx]
  rw [Int.toNat_natCast] at h3
  exact take_rgh hb hk hx (h3 k hk _ hx)
theorem at_st {l : List (Nat × Bool)} {wz : Nat → Nat} {n p : Nat} (hb : ∀ x ∈ l, x.1 < 256) (hs : anyL (twoW (boN l l.length)) l l.length = false) (h : stB (fun k => rgh (boN l l.length) (byL l k)) l.length (fun i => rgh (boN l l.length) (wz i)) n p = true) : atB l wz n (p : Int) = true := by
  obtain ⟨h1, h2⟩ := stB_iff.1 h
  refine atB_true.2 ⟨by omega, by omega, ?_⟩
  rw [Int.toNat_natCast]
  intro k hk x hx
  have := h2 k hk
  rw [byL_at hx] at this
  exact rgh_take hb hk hx hs this
/-- What is left of the places at which the bytes stand: those of the letters. -/
theorem places_eq {l : List (Nat × Bool)} {wz : Nat → Nat} {n : Nat} (hb : ∀ x ∈ l, x.1 < 256) (k : Nat) : (((List.range k).filter fun p : Nat => stB (fun k => rgh (boN l l.length) (byL l k)) l.length (fun i => rgh (boN l l.length) (wz i)) n p).filter fun p : Nat => !anyL (twoW (boN l l.length)) l l.length || atB l wz n (p : Int)) = plL l wz n k := by
  unfold plL
  rw [List.filter_filter]
  apply List.filter_congr
  intro p _
  cases ha : atB l wz n (p : Int) with
  | true => rw [st_at hb ha]; simp
  | false =>
    cases hs : anyL (twoW (boN l l.length)) l l.length with
    | true => simp
    | false =>
      have : stB (fun k => rgh (boN l l.length) (byL l k)) l.length (fun i => rgh (boN l l.length) (wz i)) n p = false := by
        rw [Bool.eq_false_iff]
        intro h
        rw [at_st hb hs h] at ha
        cases ha
      rw [this]
      simp
/-- Where all of it fits, it stands ahead of that. -/
theorem fit_stands {rl : Nat → Nat} {m : Nat} {rw' : Nat → Nat} {N n f : Nat} (h : Fit rl m rw' n f) (hn : n ≤ N) : f = m ↔ m ≤ n ∧ stB rl m rw' N (n - m) = true := by
  rw [h.full, stB_iff]
  constructor
  · rintro ⟨h1, h2⟩
    exact ⟨h1, by omega, h2⟩
  · rintro ⟨h1, _, h2⟩
    exact ⟨h1, h2⟩
end Go.Proofs.YthbmfnibgjlkhaaDoor
namespace Go.Proofs.YthbmfnibgjlkhaaDoor
open Go.RowKit Go.Shelf K
attribute [local go_sem] Oper.semAt_some
theorem wide_fn (f : FuncId) : Fence.wide.fn f = True := eq_true trivial
attribute [local go_sem] wide_fn
/-- The numbers below k that P tells, rising. -/
def cmP (P : Nat → Bool) (k : Nat) : List Nat := (List.range k).filter P
theorem cmP_yes {P : Nat → Bool} {k : Nat} (h : P k = true) : cmP P (k + 1) = cmP P k ++ [k] := by
  unfold cmP; rw [List.range_succ, List.filter_append]; simp [h]
theorem cmP_no {P : Nat → Bool} {k : Nat} (h : P k = false) : cmP P (k + 1) = cmP P k := by
  unfold cmP; rw [List.range_succ, List.filter_append]; simp [h]
theorem cmP_pre (P : Nat → Bool) {j k : Nat} (h : j ≤ k) : ∃ r, cmP P k = cmP P j ++ r := by
  induction k with
  | zero => obtain rfl : j = 0 := by omega
            exact ⟨[], by simp⟩
  | succ k ih =>
    by_cases e : j = k + 1
    · subst e; exact ⟨[], by simp⟩
    · obtain ⟨r, hr⟩ := ih (by omega)
      cases hP : P k with
      | true => exact ⟨r ++ [k], by rw [cmP_yes hP, hr, List.append_assoc]⟩
      | false => exact ⟨r, by rw [cmP_no hP, hr]⟩
theorem cmP_at {P : Nat → Bool} {j k : Nat} (h : j < k) (hP : P j = true) : (cmP P k)[(cmP P j).length]? = some j := by
  obtain ⟨r, hr⟩ := cmP_pre P (j := j + 1) (k := k) h
  rw [hr, cmP_yes hP, List.append_assoc, List.getElem?_append_right (Nat.le_refl _)]
  simp
theorem cmP_end {P : Nat → Bool} {j k : Nat} (h : j ≤ k) (hP : ∀ i, j ≤ i → P i = false) : cmP P k = cmP P j := by
  induction k with
  | zero => obtain rfl : j = 0 := by omega
            rfl
  | succ k ih =>
    by_cases e : j = k + 1
    · subst e; rfl
    · rw [cmP_no (hP k (by omega)), ih (by omega)]
/-- What standing's iterator gives. -/
def VPw (P : Nat → Bool) (k : Nat) (i : Nat) (_ : Nat → Prop) (vs : Array Value) (_ : World) : Prop := ∃ p : Nat, (cmP P k)[i]? = some p ∧ vs = #[.int .i64 (p : Nat)]
/-- What stands at the head of its loop. -/
structure WS (z : Nat → Nat) (m : Nat) (wt : Nat → Nat) (n : Nat) (al aw : Option Addr) (cl cw b1 b2 B : Nat) (fs : Nat → Nat) (J : Nat → (Nat → Prop) → World → Prop) (k f : Nat) (wr : World) : Prop where
  inv : J (cmP (stB z m wt n) (k - m)).length (fun j => j = B) wr
  kf : Cl wr B 3 (ints (natI fs) (m + 1))
  k1 : Cl wr b1 35 [.slice al m cl]
  k2 : Cl wr b2 35 [.slice aw n cw]
  r1 : Rd wr al m z
  r2 : Rd wr aw n wt
  fit : Fit z m wt (k - 1) f
theorem K.Rd.at_blk {A B : World} {ao : Option Addr} {n : Nat} {z : Nat → Nat} (h : Rd A ao n z) (hk : 0 < n → ∀ a, ao = some a → a.block < A.heap.size → B.heap[a.block]? = A.heap[a.block]?) (hs : A.heap.size ≤ B.heap.size) : Rd B ao n z := by
  refine ⟨h.small, fun hn => ?_⟩
  obtain ⟨b, off, e, hb, hc⟩ := h.at_ hn
  refine ⟨b, off, e, Nat.lt_of_lt_of_le hb hs, fun i hi => ?_⟩
  have q : ∀ j, B.cell? ⟨b, j, none⟩ = A.cell? ⟨b, j, none⟩ := fun j => by simp only [World.cell?]; rw [hk hn _ e hb]
  rw [q]
  exact hc i hi
theorem fit_ex (l : Nat → Nat) (m : Nat) (w : Nat → Nat) (n : Nat) : ∃ f, Fit l m w n f := by
  have key : ∀ b, ∃ f, isFit l m w n f ∧ ∀ g, g ≤ b → isFit l m w n g → g ≤ f := by
    intro b
    induction b with
    | zero => exact ⟨0, isFit_zero _ _ _ _, fun g h _ => h⟩
    | succ b ih =>
      by_cases h : isFit l m w n (b + 1)
      · exact ⟨b + 1, h, fun g hg _ => hg⟩
      · obtain ⟨f, h1, h2⟩ := ih
        refine ⟨f, h1, fun g hg hf => ?_⟩
        by_cases e : g = b + 1
        · subst e; exact (h hf).elim
        · exact h2 g (by omega) hf
  obtain ⟨f, h1, h2⟩ := key m
  exact ⟨f, h1, fun g hg => h2 g hg.1 hg⟩
theorem WS.stay {z : Nat → Nat} {m : Nat} {wt : Nat → Nat} {n : Nat} {al aw : Option Addr} {cl cw b1 b2 B : Nat} {fs : Nat → Nat} {J : Nat → (Nat → Prop) → World → Prop} {k f g : Nat} {wr A : World} (h : WS z m wt n al aw cl cw b1 b2 B fs J k f wr) (hBe : Bears J) (hA : Below wr.heap.size wr A) (hf : Fit z m wt k g) (hk : k ≤ n) (hne : g ≠ m) : WS z m wt n al aw cl cw b1 b2 B fs J (k + 1) g A := by
  have e : cmP (stB z m wt n) (k + 1 - m) = cmP (stB z m wt n) (k - m) := by
    rcases Nat.lt_or_ge k m with h' | h'
    · rw [show k + 1 - m = k - m by omega]
    · rw [show k + 1 - m = (k - m) + 1 by omega]
      refine cmP_no ?_
      rw [Bool.eq_false_iff]
      intro hs
      exact hne ((fit_stands hf hk).2 ⟨h', hs⟩)
  refine ⟨?_, h.kf.below hA, h.k1.below hA, h.k2.below hA, h.r1.below hA, h.r2.below hA, hf⟩
  rw [e]
  exact hBe _ _ _ wr A h.inv (TurnO.of_below hA) (fun _ _ h => h)
theorem WS.give {z : Nat → Nat} {m : Nat} {wt : Nat → Nat} {n : Nat} {al aw : Option Addr} {cl cw b1 b2 B : Nat} {fs : Nat → Nat} {J : Nat → (Nat → Prop) → World → Prop} {k f g : Nat} {wr A : World} {Old : Nat → Prop} (h : WS z m wt n al aw cl cw b1 b2 B fs J k f wr) (hBe : Bears J) (hA : Below wr.heap.size wr A) (hf : Fit z m wt k g) (hg : g = m) (hk : k ≤ n) (h1 : Old b1) (h2 : Old b2) (ha : 0 < m → ∀ a, al = some a → Old a.block) (hb : 0 < n → ∀ a, aw = some a → Old a.block) :
    m ≤ k ∧ (cmP (stB z m wt n) (k - m)).length < (cmP (stB z m wt n) (n + 1 - m)).length ∧ J (cmP (stB z m wt n) (k - m)).length (fun j => j = B) A ∧ VPw (stB z m wt n) (n + 1 - m) (cmP (stB z m wt n) (k - m)).length (fun j => j = B) #[.int .i64 ((k : Int) - (g : Int))] A ∧ (∀ j, j = B → j < A.heap.size) ∧
    ∀ W3, J ((cmP (stB z m wt n) (k - m)).length + 1) (fun j => j = B) W3 → KeepO (fun j => Old j ∨ j = B) A W3 → WS z m wt n al aw cl cw b1 b2 B fs J (k + 1) g W3 := by
  subst hg
  obtain ⟨hmk, hst⟩ := (fit_stands hf hk).1 rfl
  have hat : (cmP (stB z g wt n) (n + 1 - g))[(cmP (stB z g wt n) (k - g)).length]? = some (k - g) := cmP_at (by omega) hst
  refine ⟨hmk, (List.getElem?_eq_some_iff.1 hat).1, hBe _ _ _ wr A h.inv (TurnO.of_below hA) (fun _ _ h => h), ⟨k - g, hat, ?_⟩, fun j hj => ?_, fun W3 hJ hK => ?_⟩
  · rw [show ((k - g : Nat) : Int) = (k : Int) - (g : Int) by omega]
  · rw [hj]; exact Nat.lt_of_lt_of_le h.kf.lt hA.size
  · have hs : A.heap.size ≤ W3.heap.size := hK.1
    have keep : ∀ j, j < A.heap.size → (Old j ∨ j = B) → W3.heap[j]? = A.heap[j]? := hK.2
    have f1 := h.k1.below hA
    have f2 := h.k2.below hA
    have ff := h.kf.below hA
    refine ⟨?_, ?_, ?_, ?_, (h.r1.below hA).at_blk (fun hn a e hl => keep _ hl (.inl (ha hn a e))) hs, (h.r2.below hA).at_blk (fun hn a e hl => keep _ hl (.inl (hb hn a e))) hs, hf⟩
    · rw [show k + 1 - g = (k - g) + 1 by omega, cmP_yes hst, List.length_append, List.length_singleton]
      exact hJ
    · unfold Cl; rw [keep B ff.lt (.inr rfl)]; exact ff
    · unfold Cl; rw [keep b1 f1.lt (.inl h1)]; exact f1
    · unfold Cl; rw [keep b2 f2.lt (.inl h2)]; exact f2
set_option maxRecDepth 100000 in
set_option maxHeartbeats 4000000 in
theorem standing_seq (d : Nat) (z : Nat → Nat) (m : Nat) (wt : Nat → Nat) (n : Nat) (al aw : Option Addr) (cl cw b1 b2 : Nat) (Old : Nat → Prop) (w : World) (k1 : Cl w b1 35 [.slice al m cl]) (k2 : Cl w b2 35 [.slice aw n cw]) (r1 : Rd w al m z) (r2 : Rd w aw n wt) (hm : (m : Int) < 1099511627776) (hn : (n : Int) < 1099511627776) (h1 : Old b1) (h2 : Old b2) (ha : 0 < m → ∀ a, al = some a → Old a.block) (hb' : 0 < n → ∀ a, aw = some a → Old a.block) :
    SeqO Fence.wide d Tryd.prog Old 90 #[.pointer (some ⟨b1, 0, none⟩), .pointer (some ⟨b2, 0, none⟩)] (VPw (stB z m wt n) (n + 1 - m)) (cmP (stB z m wt n) (n + 1 - m)).length w := by
  intro l J W hb _ hBe hY h0
  have kW1 := k1.below hb
  have kW2 := k2.below hb
  have rW1 := r1.below hb
  have rW2 := r2.below hb
  have hsW := hb.size
  clear k1 k2 r1 r2 hb
  simp only [List.append_toArray, List.cons_append, List.nil_append]
  refine callsIn_of_wp Tryd.func90 rfl trivial ?_ rfl
  simp only [Tryd.ntmps90, List.size_toArray, List.length_cons, List.length_nil, Nat.reduceAdd, Nat.reduceSub, Array.replicate_succ, Array.replicate_zero, List.push_toArray, List.append_toArray, List.nil_append, List.cons_append]
  have d1 := kW1.cell 0 rfl
  have HF := fallsOf_any al m cl z W rW1 (by omega)
  unfold RetFo at HF
  gi_wp2_with ((try (refine ⟨fun hd => (by cases hd), ?_⟩)); gi_at_call 91; refine (callsIn_wide.2 HF).mono ?_; rintro e w1 ⟨fs, rfl, kF, hb1, hF⟩; have d2 := (kW2.below hb1).cell 0 rfl)
  have S0 : WS z m wt n al aw cl cw b1 b2 W.heap.size fs J 0 0 w1 := ⟨by
    rw [show 0 - m = 0 by omega]
    exact hBe 0 _ _ W w1 h0 (TurnO.of_below hb1) (fun k hk h => by omega), kF, kW1.below hb1, kW2.below hb1, rW1.below hb1, rW2.below hb1, Fit.start z m wt⟩
  clear d1 d2 kF hb1 HF
  gi_loopw [5, 12] (fun f i wr => ∃ (k g : Nat), k ≤ n + 1 ∧ i = .int .i64 (k : Nat) ∧ f = .int .i64 (g : Nat) ∧ WS z m wt n al aw cl cw b1 b2 W.heap.size fs J k g wr) (fun _ i _ => n + 1 - (intOf i).toNat)
  case atStart => exact ⟨0, 0, by omega, rfl, rfl, S0⟩
  case round =>
    obtain ⟨k, g, hk, rfl, rfl, S⟩ := hrel
    clear S0
    have d1 := S.k1.cell 0 rfl
    have d2 := S.k2.cell 0 rfl
    by_cases hlt : k < n + 1
    · have hki : (k : Int) < (n : Int) + 1 := by omega
      have hkn : k ≤ n := by omega
      have hkn : k ≤ n := by omega
      have hgm0 : g ≤ m := S.fit.1.1
      by_cases hk0 : k = 0
      · have hf0 : Fit z m wt k g := by have := S.fit; rw [hk0] at this ⊢; exact this
        have hkd : decide (0 < k) = false := by simp; omega
        by_cases hg : g = m
        · obtain ⟨q1, q2, q3, q4, q5, q6⟩ := S.give hBe (Below.refl wr.heap.size wr) hf0 hg hkn h1 h2 ha hb'
          obtain ⟨fn, tmps, assign, body, hy, hR⟩ := hY _ _ _ wr q2 q3 q4 q5
          have HQ : Hid _ := q6
          have hge : ((g : Int) == (m : Int)) = true := by simp; omega
          clear q6 q1 q2 q3 q4 q5 hf0 S hY h0 hF hk0 hg
          gi_wp2
          refine ⟨fun hd => (by cases hd), hR.mono ?_⟩
          rintro e W3 ⟨rfl, hJ3, hk3⟩
          have HZ : Hid _ := HQ.out W3 hJ3 hk3
          clear hR hy hJ3 hk3 HQ
          gi_wp2
          go_roundw
          case rel => exact ⟨k + 1, g, by omega, by simp, rfl, HZ.out⟩
          case measure => simp [intOf]; omega
        · have HQ : Hid _ := S.stay hBe (Below.refl wr.heap.size wr) hf0 hkn hg
          have hge : ((g : Int) == (m : Int)) = false := by simp; omega
          clear hf0 S hY h0 hF hk0 hg
          gi_wp2_with (with_reducible refine And.intro ?_ ?_; · exact fun _ _ => trivial)
          go_roundw
          case rel => exact ⟨k + 1, g, by omega, by simp, rfl, HQ.out⟩
          case measure => simp [intOf]; omega
      · have hkd : decide (0 < k) = true := by simp; omega
        obtain ⟨bb, off, rfl, hbb, hcs⟩ := S.r2.at_ (by omega)
        have dw := hcs (k - 1) (by omega)
        obtain ⟨f, hf⟩ := fit_ex z m wt k
        have hfm : f ≤ m := hf.1.1
        have HT : Hid (∀ q, CallsIn Fence.wide (d - 1) Tryd.prog 92 #[.slice al m cl, .slice (some ⟨W.heap.size, 0, none⟩) (m + 1) (m + 1), .int .i64 (g : Nat), .int .u8 (wt (k - 1) : Nat)] (wr.drewN q) (fun e w' => e = .returned (.int .i64 (f : Nat)) ∧ w' = wr.drewN q)) := fun q => callsIn_wide.2 (by
          have hA : Below wr.heap.size wr (wr.drewN q) := below_drewN (Below.refl _ _) q
          have := fitting_any al m cl z (some ⟨W.heap.size, 0, none⟩) (m + 1) (m + 1) fs m g (k - 1) wt (wr.drewN q) (S.r1.below hA) ((rdI_of S.kf (Nat.le_refl _)).below hA) hF hgm0 (by omega) S.fit (by omega)
          refine this.mono ?_
          rintro e w' ⟨f', rfl, rfl, hf'⟩
          rw [show k - 1 + 1 = k by omega] at hf'
          rw [hf'.uniq hf]
          exact ⟨rfl, rfl⟩)
        have hidx : ((k : Int) - 1) = ((k - 1 : Nat) : Int) := by omega
        have hidn : k - 1 < n := by omega
        have hidi : ((k : Int) - 1) < (n : Int) := by omega
        have hid0 : (0 : Int) ≤ (k : Int) - 1 := by omega
        have hidt : ((k : Int) - 1).toNat = k - 1 := by omega
        have hwi : IntKind.i64.wrap ((k : Int) - 1) = (k : Int) - 1 := by rw [IntKind.wrap_i64]; omega
        have HS : Hid (∀ A, Below wr.heap.size wr A → WS z m wt n al (some ⟨bb, off, none⟩) cl cw b1 b2 W.heap.size fs J k g A) := fun A hA => ⟨hBe _ _ _ wr A S.inv (TurnO.of_below hA) (fun _ _ h => h), S.kf.below hA, S.k1.below hA, S.k2.below hA, S.r1.below hA, S.r2.below hA, S.fit⟩
        clear hcs hF hk0 S hid0 hidi
        generalize wt (k - 1) = wk at *
        generalize k - 1 = k1 at *
        gi_wp2_with fail
        gi_quiet (first | (refine ⟨fun hd => (by cases hd), ?_⟩; gi_at_call 92; refine CallsIn.quiet_of_same (HT.out _)))
        have hA : Below wr.heap.size wr (wr.drewN nq) := below_drewN (Below.refl _ _) nq
        have S2 := HS.out _ hA
        clear HS HT hA d1 d2 dw hidx hidn hidt hwi hbb hkd
        generalize wr.drewN nq = wz at *
        have d1 := S2.k1.cell 0 rfl
        have d2 := S2.k2.cell 0 rfl
        by_cases hg : f = m
        · obtain ⟨q1, q2, q3, q4, q5, q6⟩ := S2.give hBe (Below.refl wz.heap.size wz) hf hg hkn h1 h2 ha hb'
          obtain ⟨fn, tmps, assign, body, hy, hR⟩ := hY _ _ _ wz q2 q3 q4 q5
          have HQ : Hid _ := q6
          have hge : ((f : Int) == (m : Int)) = true := by simp; omega
          clear q6 q1 q2 q3 q4 q5 hf S2 hY h0 hg
          gi_wp2
          refine ⟨fun hd => (by cases hd), hR.mono ?_⟩
          rintro e W3 ⟨rfl, hJ3, hk3⟩
          have HZ : Hid _ := HQ.out W3 hJ3 hk3
          clear hR hy hJ3 hk3 HQ
          gi_wp2
          go_roundw
          case rel => exact ⟨k + 1, f, by omega, by simp, rfl, HZ.out⟩
          case measure => simp [intOf]; omega
        · have HQ : Hid _ := S2.stay hBe (Below.refl wz.heap.size wz) hf hkn hg
          have hge : ((f : Int) == (m : Int)) = false := by simp; omega
          clear hf S2 hY h0 hg
          gi_wp2_with (with_reducible refine And.intro ?_ ?_; · exact fun _ _ => trivial)
          go_roundw
          case rel => exact ⟨k + 1, f, by omega, by simp, rfl, HQ.out⟩
          case measure => simp [intOf]; omega
    · obtain rfl : k = n + 1 := by omega
      have HJ : Hid (∃ O, J (cmP (stB z m wt n) (n + 1 - m)).length O wr) := ⟨_, S.inv⟩
      have hki : ¬ ((n + 1 : Nat) : Int) < (n : Int) + 1 := by omega
      clear S hY h0
      gi_wp2
      go_end0
      exact ⟨⟨_, rfl⟩, HJ.out⟩
end Go.Proofs.YthbmfnibgjlkhaaDoor
namespace Go.Proofs.YthbmfnibgjlkhaaDoor
open Go.RowKit Go.Shelf K
theorem standing_any (x y : Value) (hx : ∃ a n c, x = .slice a n c) (hy : ∃ a n c, y = .slice a n c) (w : World) : Calls Tryd.prog 73 #[x, y] w fun e w' => e = .returned (.func (.func 90) #[] #[.pointer (some ⟨w.heap.size, 0, none⟩), .pointer (some ⟨w.heap.size + 1, 0, none⟩)]) ∧ w' = (w.alloc (.cells #[x] 35)).alloc (.cells #[y] 35) := by
  obtain ⟨a, n, c, rfl⟩ := hx
  obtain ⟨b, m, d, rfl⟩ := hy
  go_enter Tryd.func73, Tryd.ntmps73
  go_wp2
  go_ret
  exact ⟨rfl, rfl⟩
/-- What Places answers. -/
def RetPc (w : World) (l : List (Nat × Bool)) (m n : Nat) (wz : Nat → Nat) (e : Ending) (w' : World) : Prop := ∃ al cl aw cw, e = .returned (.func (.func 69) #[] #[.pointer (some ⟨w.heap.size, 0, none⟩), .pointer (some ⟨w.heap.size + 1, 0, none⟩)]) ∧ Cl w' w.heap.size 34 [.slice al m cl] ∧ Cl w' (w.heap.size + 1) 35 [.slice aw n cw] ∧ RdL w' al l ∧ Rd w' aw n wz ∧ Shp al m cl ∧ Shp aw n cw ∧ Below w.heap.size w w'
theorem shp_row {w : World} {B : Nat} {ao : Option Addr} {n cap : Nat} {f : Nat → Nat} (h : OwB w B ao n cap f) : Shp ao n cap := by
  rcases h.2 with ⟨h', h0⟩ | ⟨g, c, cur, h', _⟩
  · simp only [Value.slice.injEq] at h'
    exact .inl ⟨h'.1, h0, h'.2.2⟩
  · simp only [Value.slice.injEq] at h'
    exact .inr ⟨_, h'.1⟩
theorem own_row {w : World} {B : Nat} {ao : Option Addr} {n cap : Nat} {f : Nat → Nat} (h : OwB w B ao n cap f) : ∀ a, ao = some a → B ≤ a.block := by
  intro a e
  rcases h.2 with ⟨h', _⟩ | ⟨g, c, cur, h', hg, _⟩
  · simp only [Value.slice.injEq] at h'
    rw [h'.1] at e
    cases e
  · simp only [Value.slice.injEq] at h'
    rw [h'.1] at e
    obtain rfl := Option.some.inj e
    exact hg
theorem RdL.at_block {A B : World} {ao : Option Addr} {l : List (Nat × Bool)} (h : RdL A ao l) (hk : ∀ a, ao = some a → B.heap[a.block]? = A.heap[a.block]?) (hs : A.heap.size ≤ B.heap.size) : RdL B ao l := by
  intro hn
  obtain ⟨b, off, e, hb, hc⟩ := h hn
  refine ⟨b, off, e, Nat.lt_of_lt_of_le hb hs, fun i x hi => ?_⟩
  have q : ∀ j, B.cell? ⟨b, j, none⟩ = A.cell? ⟨b, j, none⟩ := fun j => by simp only [World.cell?]; rw [hk _ e]
  rw [q, q]
  exact hc i x hi
theorem K.Rd.at_block {A B : World} {ao : Option Addr} {n : Nat} {z : Nat → Nat} (h : Rd A ao n z) (hk : ∀ a, ao = some a → B.heap[a.block]? = A.heap[a.block]?) (hs : A.heap.size ≤ B.heap.size) : Rd B ao n z := by
  refine ⟨h.small, fun hn => ?_⟩
  obtain ⟨b, off, e, hb, hc⟩ := h.at_ hn
  refine ⟨b, off, e, Nat.lt_of_lt_of_le hb hs, fun i hi => ?_⟩
  have q : ∀ j, B.cell? ⟨b, j, none⟩ = A.cell? ⟨b, j, none⟩ := fun j => by simp only [World.cell?]; rw [hk _ e]
  rw [q]
  exact hc i hi
/-- The two boxes are written. -/
theorem two_put {w A : World} {l : List (Nat × Bool)} {m n : Nat} {wz : Nat → Nat} {al aw : Option Addr} {cl cw : Nat} {x y : Value} (hB : Below w.heap.size w A) (k1 : Cl A w.heap.size 34 [x]) (k2 : Cl A (w.heap.size + 1) 35 [y]) (rl : RdL A al l) (rb : Rd A aw n wz) (nl : ∀ a, al = some a → w.heap.size + 2 ≤ a.block) (nb : ∀ a, aw = some a → w.heap.size + 2 ≤ a.block) (sl : Shp al m cl) (sb : Shp aw n cw) :
    RetPc w l m n wz (.returned (.func (.func 69) #[] #[.pointer (some ⟨w.heap.size, 0, none⟩), .pointer (some ⟨w.heap.size + 1, 0, none⟩)])) ((A.setCell ⟨w.heap.size, 0, none⟩ (.slice al m cl)).setCell ⟨w.heap.size + 1, 0, none⟩ (.slice aw n cw)) ∧
    RetPc w l m n wz (.returned (.func (.func 69) #[] #[.pointer (some ⟨w.heap.size, 0, none⟩), .pointer (some ⟨w.heap.size + 1, 0, none⟩)])) ((A.setCell ⟨w.heap.size + 1, 0, none⟩ (.slice aw n cw)).setCell ⟨w.heap.size, 0, none⟩ (.slice al m cl)) := by
  have e1 : w.heap.size ≠ w.heap.size + 1 := by omega
  refine ⟨⟨al, cl, aw, cw, rfl, ((k1.set 0 _).other e1.symm 0 _), ((k2.other e1 0 _).set 0 _), rl.at_block (fun a h => ?_) ?_, rb.at_block (fun a h => ?_) ?_, sl, sb, (hB.setCell (p := ⟨w.heap.size, 0, none⟩) (Nat.le_refl _) _).setCell (p := ⟨w.heap.size + 1, 0, none⟩) (by simp) _⟩, ⟨al, cl, aw, cw, rfl, ((k1.other e1.symm 0 _).set 0 _), ((k2.set 0 _).other e1 0 _), rl.at_block (fun a h => ?_) ?_, rb.at_block (fun a h => ?_) ?_, sl, sb, (hB.setCell (p := ⟨w.heap.size + 1, 0, none⟩) (by simp) _).setCell (p := ⟨w.heap.size, 0, none⟩) (Nat.le_refl _) _⟩⟩
  all_goals first
    | (have := nl a h; rw [Below.heap_setCell _ _ _ _ (by simp; omega), Below.heap_setCell _ _ _ _ (by simp; omega)])
    | (have := nb a h; rw [Below.heap_setCell _ _ _ _ (by simp; omega), Below.heap_setCell _ _ _ _ (by simp; omega)])
    | simp
set_option maxRecDepth 10000 in
set_option maxHeartbeats 2000000 in
theorem places_any (lo wo : Option Addr) (lc wc : Nat) (l : List (Nat × Bool)) (m n : Nat) (wz : Nat → Nat) (w : World) (hl : RdL w lo l) (hL : l.length = m) (hw : Rd w wo n wz) (hm : (m : Int) ≤ 1099511627776) (hn : (n : Int) ≤ 1099511627776) (sl : Shp lo m lc) (sw : Shp wo n wc) : Calls Tryd.prog 44 #[.slice lo m lc, .slice wo n wc] w (RetPc w l m n wz) := by
  have hB := below2 w (.cells #[.slice lo m lc] 34) (.cells #[.slice wo n wc] 35)
  have k1 := (Cl.new w 34 [.slice lo m lc]).alloc (.cells #[.slice wo n wc] 35)
  have k2 := Cl.new (w.alloc (.cells #[.slice lo m lc] 34)) 35 [.slice wo n wc]
  simp only [World.size_alloc] at k2
  have k1d := k1.drew
  have k2d := k2.drew
  have hBd := hB.drew
  obtain ⟨c1, f1⟩ := k1d.one
  obtain ⟨c2, f2⟩ := k2d.one
  have HCl : Hid (∀ W, Below w.heap.size w W → Calls Tryd.prog 67 #[.slice lo m lc] W (fun e w' => ∃ ao cap, e = .returned (.slice ao m cap) ∧ RdL w' ao l ∧ Shp ao m cap ∧ (∀ a, ao = some a → W.heap.size ≤ a.block) ∧ Below W.heap.size W w')) := fun W hW => by
    have := clonel_any lo l lc W (hl.below hW) (by omega) (by rw [hL]; exact sl)
    unfold RetOl at this
    rw [hL] at this
    exact this
  have HCb : Hid (∀ W, Below w.heap.size w W → Calls Tryd.prog 68 #[.slice wo n wc] W (fun e w' => ∃ ao cap, e = .returned (.slice ao n cap) ∧ Rd w' ao n wz ∧ Shp ao n cap ∧ (∀ a, ao = some a → W.heap.size ≤ a.block) ∧ Below W.heap.size W w')) := fun W hW =>
    (cloneb_any wo n wc wz W (hw.below hW) hn sw).mono fun e w' ⟨ao, cap, h1, h2, h3⟩ => ⟨ao, cap, h1, rdb_row hw.small h2, shp_row h2, own_row h2, h3⟩
  clear hl hw sl sw hL
  go_enter Tryd.func44, Tryd.ntmps44
  go_wp2_with fail
  go_region_with (first | (go_at_call 68; refine (HCb.out _ (by first | exact hBd | exact hB3)).mono ?_; rintro e w4 ⟨ab, cb, rfl, rb, sb, nb, hb4⟩; have k1b := k1a.below hb4; have k2b := k2a.below hb4; obtain ⟨u1, v1⟩ := k1b.one; obtain ⟨u2, v2⟩ := k2b.one) | (go_at_call 67; refine (HCl.out _ (by first | exact hBd | exact hB4)).mono ?_; rintro e w3 ⟨al, cl, rfl, rl, sl, nl, hb3⟩; have k1a := k1d.below hb3; have k2a := k2d.below hb3; have hB3 := hBd.trans (hb3.mono hBd.size); obtain ⟨s1, t1⟩ := k1a.one; obtain ⟨s2, t2⟩ := k2a.one))
  all_goals
    have hs2 : ((w.alloc (.cells #[.slice lo m lc] 34)).alloc (.cells #[.slice wo n wc] 35)).drew.heap.size = w.heap.size + 2 := by simp
    have g3 := hb3.size
    have g4 := hb4.size
    have HT := two_put (hB3.trans (hb4.mono hB3.size)) k1b k2b (rl.below hb4) rb (fun a h => by have := nl a h; omega) (fun a h => by have := nb a h; omega) sl sb
    have HZ : Hid _ := HT
    clear HT HCl HCb hB k1 k2 k1d k2d hBd c1 f1 c2 f2 rl rb sl sb nl nb hb3 hb4 k1a k2a k1b k2b u1 u2 v1 v2 s1 s2 t1 t2 hB3 hs2 g3 g4
    go_wp2
    go_ret
    first | exact HZ.out.1 | exact HZ.out.2
end Go.Proofs.YthbmfnibgjlkhaaDoor
