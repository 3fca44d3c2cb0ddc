/- Where bytes stand in bytes, found by what their beginnings and ends have in common: plain. fitting: the walk. fallsOf: the walk. -/
import Derived.Test.YthbmfnibgjlkhaaDoorLd
import Derived.Test.YthbmfnibgjlkhaaDoorGStSo
import Derived.Deep.DeepCutAuto
import Derived.Test.YthbmfnibgjlkhaaDoorGSpSaNl
namespace Go.Proofs.YthbmfnibgjlkhaaDoor
/-- The first f of l's m bytes are the last ones of the first n of w. -/
def isFit (l : Nat → Nat) (m : Nat) (w : Nat → Nat) (n f : Nat) : Prop := f ≤ m ∧ f ≤ n ∧ ∀ k, k < f → l k = w (n - f + k)
/-- As many as can be. -/
def Fit (l : Nat → Nat) (m : Nat) (w : Nat → Nat) (n f : Nat) : Prop := isFit l m w n f ∧ ∀ g, isFit l m w n g → g ≤ f
theorem isFit_zero (l : Nat → Nat) (m : Nat) (w : Nat → Nat) (n : Nat) : isFit l m w n 0 := ⟨Nat.zero_le _, Nat.zero_le _, fun k hk => by omega⟩
theorem Fit.start (l : Nat → Nat) (m : Nat) (w : Nat → Nat) : Fit l m w 0 0 := ⟨isFit_zero l m w 0, fun _ hg => hg.2.1⟩
theorem Fit.uniq {l : Nat → Nat} {m : Nat} {w : Nat → Nat} {n f g : Nat} (h : Fit l m w n f) (k : Fit l m w n g) : f = g := Nat.le_antisymm (k.2 f h.1) (h.2 g k.1)
/-- What fits, and is shorter than what fits, fits in that. -/
theorem fit_in {l : Nat → Nat} {m : Nat} {w : Nat → Nat} {n f g : Nat} (h : isFit l m w n f) (hg : g < f) : isFit l m w n g ↔ isFit l m (fun k => l (k + 1)) (f - 1) g := by
  obtain ⟨h1, h2, h3⟩ := h
  have key : ∀ k, k < g → (w (n - g + k) = l (f - 1 - g + k + 1)) := fun k hk => by
    have := h3 (f - g + k) (by omega)
    rw [show n - f + (f - g + k) = n - g + k by omega] at this
    rw [← this]
    congr 1
    omega
  constructor
  · rintro ⟨q1, q2, q3⟩
    refine ⟨q1, by omega, fun k hk => ?_⟩
    rw [q3 k hk, key k hk]
  · rintro ⟨q1, q2, q3⟩
    refine ⟨q1, by omega, fun k hk => ?_⟩
    rw [q3 k hk, key k hk]
/-- What the falls of l are, from 1 to i. -/
def Falls (l : Nat → Nat) (m : Nat) (falls : Nat → Nat) (i : Nat) : Prop := ∀ j, 1 ≤ j → j ≤ i → Fit l m (fun k => l (k + 1)) (j - 1) (falls j)
theorem Falls.lt {l : Nat → Nat} {m : Nat} {falls : Nat → Nat} {i j : Nat} (h : Falls l m falls i) (h1 : 1 ≤ j) (hj : j ≤ i) : falls j < j := by
  have := (h j h1 hj).1.2.1
  omega
/-- The next one that fits. -/
theorem fall_fit {l : Nat → Nat} {m : Nat} {w : Nat → Nat} {n f i : Nat} {falls : Nat → Nat} (hf : Falls l m falls i) (h : isFit l m w n f) (h1 : 1 ≤ f) (hi : f ≤ i) : isFit l m w n (falls f) ∧ ∀ g, isFit l m w n g → g < f → g ≤ falls f := by
  have hF := hf f h1 hi
  have hlt := hf.lt h1 hi
  exact ⟨(fit_in h hlt).2 hF.1, fun g hg hgf => hF.2 g ((fit_in h hgf).1 hg)⟩
/-- What stands in the search for the next fit: f fits, and none above it goes on with b. -/
def Seek (l : Nat → Nat) (m : Nat) (w : Nat → Nat) (n b f : Nat) : Prop := isFit l m w n f ∧ ∀ g, isFit l m w n g → f < g → ¬ (g < m ∧ l g = b)
theorem Seek.start {l : Nat → Nat} {m : Nat} {w : Nat → Nat} {n b f : Nat} (h : Fit l m w n f) : Seek l m w n b f := ⟨h.1, fun g hg hfg => by have := h.2 g hg; omega⟩
theorem Seek.next {l : Nat → Nat} {m : Nat} {w : Nat → Nat} {n b f i : Nat} {falls : Nat → Nat} (hf : Falls l m falls i) (h : Seek l m w n b f) (h1 : 1 ≤ f) (hi : f ≤ i) (hno : f = m ∨ l f ≠ b) : Seek l m w n b (falls f) := by
  obtain ⟨q1, q2⟩ := fall_fit hf h.1 h1 hi
  refine ⟨q1, fun g hg hfg hgo => ?_⟩
  rcases Nat.lt_trichotomy g f with h' | h' | h'
  · have := q2 g hg h'
    omega
  · subst h'
    rcases hno with e | e
    · omega
    · exact e hgo.2
  · exact h.2 g hg h' hgo
theorem fit_succ {l : Nat → Nat} {m : Nat} {w : Nat → Nat} {n f : Nat} : isFit l m w (n + 1) (f + 1) ↔ isFit l m w n f ∧ f < m ∧ l f = w n := by
  constructor
  · rintro ⟨h1, h2, h3⟩
    refine ⟨⟨by omega, by omega, fun k hk => ?_⟩, by omega, ?_⟩
    · have := h3 k (by omega)
      rw [show n + 1 - (f + 1) + k = n - f + k by omega] at this
      exact this
    · have := h3 f (by omega)
      rw [show n + 1 - (f + 1) + f = n by omega] at this
      exact this
  · rintro ⟨⟨h1, h2, h3⟩, h4, h5⟩
    refine ⟨by omega, by omega, fun k hk => ?_⟩
    rw [show n + 1 - (f + 1) + k = n - f + k by omega]
    by_cases hkf : k = f
    · subst hkf
      rw [h5]
      congr 1
      omega
    · exact h3 k (by omega)
theorem Seek.yes {l : Nat → Nat} {m : Nat} {w : Nat → Nat} {n f : Nat} (h : Seek l m w n (w n) f) (hm : f < m) (hl : l f = w n) : Fit l m w (n + 1) (f + 1) := by
  refine ⟨fit_succ.2 ⟨h.1, hm, hl⟩, fun g hg => ?_⟩
  cases g with
  | zero => omega
  | succ g =>
    obtain ⟨q1, q2, q3⟩ := fit_succ.1 hg
    rcases Nat.lt_or_ge f g with h' | h'
    · exact (h.2 g q1 h' ⟨q2, q3⟩).elim
    · omega
theorem Seek.no {l : Nat → Nat} {m : Nat} {w : Nat → Nat} {n : Nat} (h : Seek l m w n (w n) 0) (hno : ¬ (0 < m ∧ l 0 = w n)) : Fit l m w (n + 1) 0 := by
  refine ⟨isFit_zero _ _ _ _, fun g hg => ?_⟩
  cases g with
  | zero => exact Nat.le_refl _
  | succ g =>
    obtain ⟨q1, q2, q3⟩ := fit_succ.1 hg
    rcases Nat.eq_zero_or_pos g with h' | h'
    · subst h'
      exact (hno ⟨q2, q3⟩).elim
    · exact (h.2 g q1 h' ⟨q2, q3⟩).elim
/-- All of l stands there. -/
theorem Fit.full {l : Nat → Nat} {m : Nat} {w : Nat → Nat} {n f : Nat} (h : Fit l m w n f) : f = m ↔ m ≤ n ∧ ∀ k, k < m → l k = w (n - m + k) := by
  constructor
  · rintro rfl
    exact ⟨h.1.2.1, h.1.2.2⟩
  · rintro ⟨h1, h2⟩
    have := h.2 m ⟨Nat.le_refl _, h1, h2⟩
    have := h.1.1
    omega
end Go.Proofs.YthbmfnibgjlkhaaDoor
namespace Go.Proofs.YthbmfnibgjlkhaaDoor
open Go.RowKit K
/-- What fitting answers. -/
def RetFit (w : World) (z : Nat → Nat) (m : Nat) (wt : Nat → Nat) (n : Nat) (e : Ending) (w' : World) : Prop := ∃ f : Nat, e = .returned (.int .i64 (f : Nat)) ∧ w' = w ∧ Fit z m wt n f
set_option maxRecDepth 10000 in
set_option maxHeartbeats 2000000 in
theorem fitting_any (lo : Option Addr) (m lc : Nat) (z : Nat → Nat) (fo : Option Addr) (fn fc : Nat) (fs : Nat → Nat) (i f n : Nat) (wt : Nat → Nat) (w : World) (hl : Rd w lo m z) (hf : RdI w fo fn (fun k => ((fs k : Nat) : Int))) (hF : Falls z m fs i) (hfi : f ≤ i) (hin : i < fn) (hfit : Fit z m wt n f) (hm : (m : Int) ≤ 4611686018427387904) : Calls Tryd.prog 92 #[.slice lo m lc, .slice fo fn fc, .int .i64 (f : Nat), .int .u8 (wt n : Nat)] w (RetFit w z m wt (n + 1)) := by
  have HS : Hid (Seek z m wt n (wt n) f) := Seek.start hfit
  obtain ⟨b, hb⟩ : ∃ b, b = wt n := ⟨_, rfl⟩
  have HBn : Hid (wt n = b) := hb.symm
  rw [← hb] at HS ⊢
  clear hb hfit
  go_enter Tryd.func92, Tryd.ntmps92
  go_wp2
  go_loopw [2] (fun v wr => ∃ g : Nat, v = .int .i64 (g : Nat) ∧ g ≤ i ∧ Hid (Seek z m wt n b g) ∧ wr = w) (fun v _ => (intOf v).toNat)
  case atStart => exact ⟨f, rfl, hfi, HS, rfl⟩
  case round =>
    obtain ⟨g, rfl, hgi, hs, rfl⟩ := hrel
    clear HS
    have hgm : g ≤ m := hs.out.1.1
    -- where it goes on with b, or not
    have HY : Hid (g < m → z g = b → Fit z m wt (n + 1) (g + 1)) := fun h1 h2 => by
      have := hs.out
      rw [← HBn.out] at this h2
      exact this.yes h1 h2
    have HN : Hid (1 ≤ g → (g = m ∨ z g ≠ b) → Seek z m wt n b (fs g) ∧ fs g < g) := fun h1 h2 => ⟨hs.out.next hF h1 hgi h2, hF.lt h1 hgi⟩
    have HZ : Hid (g = 0 → ¬ (0 < m ∧ z 0 = b) → Fit z m wt (n + 1) 0) := fun h1 h2 => by
      have := hs.out
      subst h1
      rw [← HBn.out] at this h2
      exact this.no h2
    clear hs hF
    by_cases hg0 : g = 0
    · subst hg0
      by_cases hm0 : 0 < m
      · obtain ⟨bb, off, rfl, _, hc⟩ := hl.at_ hm0
        have d0 := hc 0 hm0
        rw [Nat.add_zero] at d0
        have hmi : (0 : Int) < (m : Int) := by omega
        clear hc hl hf
        by_cases hzb : z 0 = b
        · have HE := HY.out hm0 hzb
          have hzi : (((z 0 : Nat) : Int) == (b : Int)) = true := by simp [hzb]
          have HE' : Hid _ := HE
          clear HE HY HN HZ hzb
          generalize z 0 = z0 at *
          go_wp2
          go_ret
          exact ⟨1, rfl, rfl, HE'.out⟩
        · have HE := HZ.out rfl (fun h => hzb h.2)
          have hzi : (((z 0 : Nat) : Int) == (b : Int)) = false := by simp; omega
          have HE' : Hid _ := HE
          clear HE HY HN HZ hzb
          generalize z 0 = z0 at *
          go_wp2
          go_ret
          exact ⟨0, rfl, rfl, HE'.out⟩
      · have HE := HZ.out rfl (fun h => hm0 h.1)
        have hmi : ¬ (0 : Int) < (m : Int) := by omega
        have HE' : Hid _ := HE
        clear HE HY HN HZ hl hf
        go_wp2
        go_ret
        exact ⟨0, rfl, rfl, HE'.out⟩
    · have hg1 : (g : Int) > 0 := by omega
      obtain ⟨b2, o2, rfl, _, hc2⟩ := hf (by omega)
      have dg := hc2 g (by omega)
      have hgfn : (g : Int) < (fn : Int) := by omega
      by_cases hgm2 : g = m
      · obtain ⟨q1, q2⟩ := HN.out (by omega) (.inl hgm2)
        have hgmi : ((g : Int) == (m : Int)) = true := by simp; omega
        have HQ : Hid (Seek z m wt n b (fs g)) := q1
        have hm2 : (fs g : Int).toNat < (g : Int).toNat := by omega
        have hfi2 : fs g ≤ i := by omega
        clear q1 q2 HY HN HZ hl hc2 hgm2
        go_wp2
        go_roundw
        case rel => first | exact ⟨fs g, rfl, hfi2, HQ, rfl⟩ | exact ⟨fs g, rfl, hfi2, HQ, trivial⟩
        case measure => simpa [intOf] using hm2
      · have hgmi : ((g : Int) == (m : Int)) = false := by simp; omega
        have hgml : (g : Int) < (m : Int) := by omega
        obtain ⟨bb, off, rfl, _, hc⟩ := hl.at_ (by omega)
        have d0 := hc g (by omega)
        by_cases hzb : z g = b
        · have HE := HY.out (by omega) hzb
          have hzi : (((z g : Nat) : Int) == (b : Int)) = true := by simp [hzb]
          have hzn : (((z g : Nat) : Int) != (b : Int)) = false := by simp [hzb]
          have HE' : Hid _ := HE
          clear HE HY HN HZ hzb hc hc2 hl
          generalize z g = zg at *
          go_wp2
          go_ret
          exact ⟨g + 1, rfl, rfl, HE'.out⟩
        · obtain ⟨q1, q2⟩ := HN.out (by omega) (.inr hzb)
          have hzn : (((z g : Nat) : Int) != (b : Int)) = true := by simp; omega
          have HQ : Hid (Seek z m wt n b (fs g)) := q1
          have hm2 : (fs g : Int).toNat < (g : Int).toNat := by omega
          have hfi2 : fs g ≤ i := by omega
          clear q1 q2 HY HN HZ hl hc2 hgm2 hzb hc
          generalize z g = zg at *
          go_wp2
          go_roundw
          case rel => first | exact ⟨fs g, rfl, hfi2, HQ, rfl⟩ | exact ⟨fs g, rfl, hfi2, HQ, trivial⟩
          case measure => simpa [intOf] using hm2
end Go.Proofs.YthbmfnibgjlkhaaDoor
namespace Go.Proofs.YthbmfnibgjlkhaaDoor
open Go.RowKit K
/-- Numbers as integers. -/
def natI (fs : Nat → Nat) : Nat → Int := fun k => ((fs k : Nat) : Int)
def updQ (f : Nat → Nat) (i : Nat) (v : Nat) : Nat → Nat := fun j => if j = i then v else f j
theorem natI_updq (f : Nat → Nat) (i v : Nat) : updI (natI f) i (v : Int) = natI (updQ f i v) := by
  funext j
  simp only [updI, natI, updQ]
  split <;> rfl
theorem Falls.next {z : Nat → Nat} {m : Nat} {fs : Nat → Nat} {k f : Nat} (h : Falls z m fs k) (hk : 1 ≤ k) (hf : Fit z m (fun j => z (j + 1)) (k - 1 + 1) f) : Falls z m (updQ fs (k + 1) f) (k + 1) := by
  intro j h1 hj
  by_cases e : j = k + 1
  · subst e
    rw [show k - 1 + 1 = k + 1 - 1 by omega] at hf
    simpa [updQ] using hf
  · have := h j h1 (by omega)
    simpa [updQ, e] using this
theorem make_intsL (n : Nat) (hn : n ≤ 1099511627776) (w : World) : (Instr.makeSlice 42 (.int .i64 (n : Nat)) (.int .i64 (n : Nat))).run Tryd.prog w = .ok (.slice (some ⟨w.heap.size, 0, none⟩) n n) (w.alloc (.cells (ints (fun _ => 0) n).toArray 3)) := by
  obtain ⟨i, hi, hz, hs, hb⟩ := info_parts b_int
  have := run_make (P := Tryd.prog) w 42 3 i (.int .i64 0) Tryd.underlying42 hi hz .i64 .i64 (n : Int) (n : Int) (by omega) (by omega) (by rw [hb]; omega) (by omega)
  rw [this, hs]
  simp [← made_ints, Value.cells]
/-- What fallsOf answers. -/
def RetFo (w : World) (z : Nat → Nat) (m : Nat) (e : Ending) (w' : World) : Prop := ∃ fs : Nat → Nat, e = .returned (.slice (some ⟨w.heap.size, 0, none⟩) (m + 1) (m + 1)) ∧ Cl w' w.heap.size 3 (ints (natI fs) (m + 1)) ∧ Below w.heap.size w w' ∧ Falls z m fs m
set_option maxRecDepth 10000 in
set_option maxHeartbeats 2000000 in
theorem fallsOf_any (lo : Option Addr) (m lc : Nat) (z : Nat → Nat) (w : World) (hl : Rd w lo m z) (hm : m < 1099511627776) : Calls Tryd.prog 91 #[.slice lo m lc] w (RetFo w z m) := by
  have hmk := make_intsL (m + 1) (by omega) w
  rw [show ((m + 1 : Nat) : Int) = (m : Int) + 1 by omega] at hmk
  have k0 := Cl.new w 3 (ints (fun _ => 0) (m + 1))
  have hB0 := below1 w (.cells (ints (fun _ => 0) (m + 1)).toArray 3)
  have hF0 : Falls z m (fun _ => 0) 1 := fun j h1 hj => by
    obtain rfl : j = 1 := by omega
    exact Fit.start _ _ _
  go_enter Tryd.func91, Tryd.ntmps91
  go_wp2
  go_loopw [4] (fun i wr => ∃ (k : Nat) (fs : Nat → Nat), i = .int .i64 (k : Nat) ∧ 1 ≤ k ∧ (k ≤ m ∨ k = 1) ∧ Falls z m fs k ∧ Cl wr w.heap.size 3 (ints (natI fs) (m + 1)) ∧ Below w.heap.size w wr) (fun i _ => m - (intOf i).toNat)
  case atStart => exact ⟨1, fun _ => 0, rfl, Nat.le_refl _, .inr rfl, hF0, k0, hB0⟩
  case round =>
    obtain ⟨k, fs, rfl, hk1, hkm, hF, hc, hb⟩ := hrel
    clear k0 hB0 hmk hF0
    by_cases hlt : k < m
    · obtain ⟨bb, off, rfl, hbb, hcs⟩ := hl.at_ (by omega)
      have hl' : Rd wr (some ⟨bb, off, none⟩) m z := hl.below hb
      have d0 : wr.cell? ⟨bb, off + k, none⟩ = some (.int .u8 (z k : Nat)) := by rw [hb.cell (p := ⟨bb, _, none⟩) hbb]; exact hcs k hlt
      have d1 := hc.cell k (ints_get (natI fs) (by omega))
      have fr := hc.frozen (k + 1)
      have fr' := hc.drew.frozen (k + 1)
      have d2 := hc.cell (k + 1) (ints_get (natI fs) (by omega))
      have d2' := hc.drew.cell (k + 1) (ints_get (natI fs) (by omega))
      have hki : (k : Int) < (m : Int) := by omega
      have hk0 : (0 : Int) ≤ (k : Int) := by omega
      have hfk := hF.lt hk1 (Nat.le_refl _)
      have hfm : fs k ≤ m := (hF k hk1 (Nat.le_refl _)).1.1
      have HS : Hid (∀ W, Below wr.heap.size wr W → Calls Tryd.prog 92 #[.slice (some ⟨bb, off, none⟩) m lc, .slice (some ⟨w.heap.size, 0, none⟩) (m + 1) (m + 1), .int .i64 (fs k : Nat), .int .u8 (z k : Nat)] W (fun e W' => ∃ f : Nat, e = .returned (.int .i64 (f : Nat)) ∧ W' = W ∧ f ≤ m ∧ Hid (Falls z m (updQ fs (k + 1) f) (k + 1)))) := fun W hW => by
        have := fitting_any (some ⟨bb, off, none⟩) m lc z (some ⟨w.heap.size, 0, none⟩) (m + 1) (m + 1) fs k (fs k) (k - 1) (fun j => z (j + 1)) W (hl'.below hW) ((rdI_of hc (Nat.le_refl _)).below hW) hF (by omega) (by omega) (hF k hk1 (Nat.le_refl _)) (by omega)
        simp only [show k - 1 + 1 = k by omega] at this
        refine this.mono ?_
        rintro e W' ⟨f, rfl, rfl, hf⟩
        refine ⟨f, rfl, rfl, hf.1.1, ?_⟩
        rw [show k = k - 1 + 1 by omega] at hf
        exact hF.next hk1 hf
      have HX : Hid (∀ f : Nat, Hid (Falls z m (updQ fs (k + 1) f) (k + 1)) → ∃ (k' : Nat) (fs : Nat → Nat), (Value.int .i64 ((k : Int) + 1)) = .int .i64 (k' : Nat) ∧ 1 ≤ k' ∧ (k' ≤ m ∨ k' = 1) ∧ Falls z m fs k' ∧ Cl (wr.setCell ⟨w.heap.size, k + 1, none⟩ (.int .i64 (f : Nat))).drew w.heap.size 3 (ints (natI fs) (m + 1)) ∧ Below w.heap.size w (wr.setCell ⟨w.heap.size, k + 1, none⟩ (.int .i64 (f : Nat))).drew) := fun f h => by
        refine ⟨k + 1, updQ fs (k + 1) f, by simp, by omega, .inl hlt, h.out, ?_, ?_⟩
        · have := (hc.set (k + 1) (.int .i64 (f : Nat))).drew
          rw [ints_set, natI_updq] at this
          exact this
        · exact (hb.setCell (p := ⟨w.heap.size, k + 1, none⟩) (by simp) _).drew
      have hfn : natI fs k = ((fs k : Nat) : Int) := rfl
      rw [hfn] at d1
      generalize natI fs (k + 1) = old at *
      clear hl hl' hcs hF hc hfn
      generalize fs k = q at *
      generalize z k = zk at *
      have hw : IntKind.i64.wrap ((k : Int) + 1) = (k : Int) + 1 := by rw [IntKind.wrap_i64]; omega
      have hk2 : (k : Int) + 1 < (m : Int) + 1 := by omega
      have hk3 : (k : Int) < (m : Int) + 1 := by omega
      have hk4 : (0 : Int) ≤ (k : Int) + 1 := by omega
      have hk5 : ((k : Int) + 1).toNat = k + 1 := by omega
      go_wp2
      go_region_with (go_at_call 92; refine (HS.out _ ?_).mono ?_; exact (Below.refl _ _).drew; rintro e W' ⟨f, rfl, rfl, hf, hfa⟩)
      all_goals
        have HY : Hid _ := HX.out f hfa
        clear HX HS d0 d1 d2 d2' fr fr' hb hbb hfa
        try generalize (wr.setCell ⟨w.heap.size, k + 1, none⟩ (.int .i64 (f : Nat))).drew = V at *
        go_wp2
        go_roundw
        case rel => exact HY.out
        case measure => simp [intOf]; omega
    · have HR : Hid (RetFo w z m (.returned (.slice (some ⟨w.heap.size, 0, none⟩) (m + 1) (m + 1))) wr) := ⟨fs, rfl, hc, hb, fun j h1 hj => hF j h1 (by omega)⟩
      have hki : ¬ (k : Int) < (m : Int) := by omega
      clear hl hF hc
      go_wp2
      go_ret
      exact HR.out
end Go.Proofs.YthbmfnibgjlkhaaDoor
