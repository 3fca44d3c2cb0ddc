/- The reference's Ends: the walk. -/
import Derived.Test.YtehlmjjdegmnaaaRa
import Derived.Test.YtehlmjjdegmnaaaAl
import Derived.Test.YtehlmjjdegmnaaaEq
namespace Go.Proofs.Ytehlmjjdegmnaaa
open Go.RowKit Go.Shelf
theorem hidM {p : Prop} (h : p) : Hid p := h
theorem ownsRow_atR {W W' : World} {base e size k : Nat} {v : Value} {xs : List Value} (h : W.ownsRow base e size v k xs) (hs : ∀ g, base ≤ g → g < W.heap.size → W'.heap[g]? = W.heap[g]?) : W'.ownsRow base e size v k xs :=
  ⟨h.1, h.2.imp id fun ⟨g, cap, cur, hv, hg, hh, r⟩ => ⟨g, cap, cur, hv, hg, by rw [hs g hg (Array.getElem?_eq_some_iff.1 hh).1]; exact hh, r⟩⟩
theorem ownsRow_belowR {W W' : World} {base e size k : Nat} {v : Value} {xs : List Value} (h : W.ownsRow base e size v k xs) (hb : Below W.heap.size W W') : W'.ownsRow base e size v k xs := ownsRow_atR h fun g _ hg => hb.block g hg
/-- The state's box: a state of N ages, its words apart from the block that v owns, and from the box. -/
def Stb (W : World) (sb N : Nat) (Q : Nat → Bool) (v : Value) : Prop := ∃ ao len cap f, Box W sb (.int .i64 (N : Nat)) (.slice ao len cap) ∧ Rd W ao len f ∧ IsSet N len f Q ∧ ∀ q, ao = some q → 0 < len → q.block ≠ sb ∧ some q.block ≠ v.ownBlock
theorem Stb.lt {W : World} {sb N : Nat} {Q : Nat → Bool} {v : Value} (h : Stb W sb N Q v) : sb < W.heap.size := by
  obtain ⟨_, _, _, _, hb, _⟩ := h
  exact hb.lt
theorem Stb.below {W W' : World} {sb N : Nat} {Q : Nat → Bool} {v : Value} (h : Stb W sb N Q v) (hb : Below W.heap.size W W') : Stb W' sb N Q v := by
  obtain ⟨ao, len, cap, f, h1, h2, h3, h4⟩ := h
  exact ⟨ao, len, cap, f, h1.below hb, h2.below hb, h3, h4⟩
theorem Stb.congr {W : World} {sb N : Nat} {P Q : Nat → Bool} {v : Value} (h : Stb W sb N P v) (e : ∀ i, P i = Q i) : Stb W sb N Q v := by
  obtain rfl : P = Q := funext e
  exact h
/-- A new state comes into the box. -/
theorem Stb.put {W w1 : World} {sb N : Nat} {P Q : Nat → Bool} {v : Value} {ao : Option Addr} {len cap : Nat} {f : Nat → Nat} (h : Stb W sb N P v) (hv : ∀ j, v.ownBlock = some j → j < W.heap.size) (hb : Below W.heap.size W w1) (hr : Rd w1 ao len f) (hq : ∀ q, ao = some q → W.heap.size ≤ q.block) (hs : IsSet N len f Q) :
    Stb ((w1.setCell ⟨sb, 0, none⟩ (.int .i64 (N : Nat))).setCell ⟨sb, 1, none⟩ (.slice ao len cap)) sb N Q v := by
  have hlt := h.lt
  obtain ⟨_, _, _, _, h1, _⟩ := h
  refine ⟨ao, len, cap, f, (h1.below hb).set _ _, hr.set2 (fun q e _ => by have := hq q e; omega) _ _, hs, fun q e _ => ⟨by have := hq q e; omega, fun e2 => ?_⟩⟩
  have := hv q.block e2.symm
  have := hq q e
  omega
/-- What the loop holds on to. -/
structure RqI (w : World) (a b c d : Nat) (lo hi : Int) (N : Nat) (l : List Nat) (v : Value) (sb : Nat) (Q : Nat → Bool) (W : World) : Prop where
  rg : RgAt W w.heap.size a b c d lo hi
  st : Stb W sb N Q v
  row : W.ownsRow (w.heap.size + 1) 3 1 v l.length (ints l)
  sbl : w.heap.size + 1 ≤ sb
  bel : Below w.heap.size w W
section
variable {w : World} {a b c d : Nat} {lo hi : Int} {N : Nat} {l : List Nat} {v : Value} {sb : Nat} {Q : Nat → Bool} {W W' : World}
theorem RqI.next (h : RqI w a b c d lo hi N l v sb Q W) (hb : Below W.heap.size W W') : RqI w a b c d lo hi N l v sb Q W' :=
  ⟨h.rg.below hb, h.st.below hb, ownsRow_belowR h.row hb, h.sbl, h.bel.trans (hb.mono h.bel.size)⟩
theorem RqI.sbo (h : RqI w a b c d lo hi N l v sb Q W) : some sb ≠ v.ownBlock := fun e => by
  obtain ⟨_, _, _, _, h1, _⟩ := h.st
  rcases h.row.2 with ⟨rfl, _⟩ | ⟨g, cap, cur, rfl, _, hg, _⟩
  · simp [Value.ownBlock] at e
  · simp [Value.ownBlock] at e
    subst e
    unfold Box at h1
    rw [hg] at h1
    injection h1 with h1
    injection h1 with _ h2 _
    exact absurd h2 (by decide)
theorem RqI.lts (h : RqI w a b c d lo hi N l v sb Q W) : ∀ j, v.ownBlock = some j → j < W.heap.size := fun j e => (h.row.lt j e).2
theorem RqI.congr {Q' : Nat → Bool} (h : RqI w a b c d lo hi N l v sb Q W) (e : ∀ i, Q i = Q' i) : RqI w a b c d lo hi N l v sb Q' W := by
  obtain rfl : Q = Q' := funext e
  exact h
theorem RqI.put {w1 : World} {Q' : Nat → Bool} {ao : Option Addr} {len cap : Nat} {f : Nat → Nat} (h : RqI w a b c d lo hi N l v sb Q W) (hb : Below W.heap.size W w1) (hr : Rd w1 ao len f) (hq : ∀ q, ao = some q → W.heap.size ≤ q.block) (hs : IsSet N len f Q') :
    RqI w a b c d lo hi N l v sb Q' ((w1.setCell ⟨sb, 0, none⟩ (.int .i64 (N : Nat))).setCell ⟨sb, 1, none⟩ (.slice ao len cap)) := by
  have hn := h.next hb
  have hl := h.sbl
  have hk : ∀ (W : World) (j : Nat) (v : Value) (k : Nat), k ≠ sb → (W.setCell ⟨sb, j, none⟩ v).heap[k]? = W.heap[k]? := fun W j v k hk => Below.heap_setCell _ _ _ _ hk
  refine ⟨?_, h.st.put h.lts hb hr hq hs, ?_, hl, (hn.bel.setCell (p := ⟨sb, 0, none⟩) (by simp; omega) _).setCell (p := ⟨sb, 1, none⟩) (by simp; omega) _⟩
  · have := hn.rg
    unfold RgAt Cl at this ⊢
    rw [hk _ _ _ _ (by omega), hk _ _ _ _ (by omega)]
    exact this
  · rcases hn.row with ⟨r1, r2 | ⟨g, cp, cur, hv, hg, hh, r⟩⟩
    · exact ⟨r1, .inl r2⟩
    · have hne : g ≠ sb := fun e => hn.sbo (by rw [hv, e]; rfl)
      exact ⟨r1, .inr ⟨g, cp, cur, hv, hg, by rw [hk _ _ _ _ hne, hk _ _ _ _ hne]; exact hh, r⟩⟩
/-- A place is told. -/
theorem RqI.app {w3 : World} {o : Obj} {v' : Value} {x : Nat} (h : RqI w a b c d lo hi N l v sb Q W) (hown' : w3.ownsRow (w.heap.size + 1) 3 1 v' (l.length + 1) (ints l ++ [.int .i64 (x : Nat)])) (hgrow : (W.alloc o).grownBy w3 v.ownBlock) (hk : ∃ k cap, v' = .slice (some ⟨k, 0, none⟩) (l.length + 1) cap ∧ (v.ownBlock = some k ∨ W.heap.size ≤ k)) :
    RqI w a b c d lo hi N (l ++ [x]) v' sb Q w3 := by
  have hb0 : Below W.heap.size W (W.alloc o) := (Below.refl _ _).alloc (Nat.le_refl _) o
  have h1 := h.next hb0
  have hso := h.sbo
  obtain ⟨ao, len, cap, f, s1, s2, s3, s4⟩ := h.st
  have hsb := s1.lt
  have q1 := s1.below hb0
  have q2 := s2.below hb0
  refine ⟨?_, ⟨ao, len, cap, f, ?_, ⟨s2.small, fun hl => ?_⟩, s3, fun q e hl => ⟨(s4 q e hl).1, ?_⟩⟩, by simpa [ints] using hown', h.sbl, ?_⟩
  · have hr := h1.rg
    have hlt : w.heap.size < (W.alloc o).heap.size := hr.lt
    unfold RgAt Cl at hr ⊢
    rw [hgrow.block _ hlt (fun e => by have := (h.row.lt _ e.symm).1; omega)]
    exact hr
  · have hlt := q1.lt
    unfold Box at q1 ⊢
    rw [hgrow.block sb hlt hso]
    exact q1
  · obtain ⟨g, off, e, hlt, hc⟩ := q2.at_ hl
    have hne := (s4 _ e hl).2
    have hbk := hgrow.block g hlt hne
    refine ⟨g, off, e, Nat.lt_of_lt_of_le hlt hgrow.size, fun i hi => ?_⟩
    rw [World.cell?_of_block hbk]
    exact hc i hi
  · obtain ⟨k, cp, rfl, hk⟩ := hk
    intro e2
    have e3 : q.block = k := by simpa [Value.ownBlock] using e2
    rcases hk with hk | hk
    · exact (s4 q e hl).2 (by rw [e3, hk])
    · have := s2.lo q e hl
      omega
  · exact h1.bel.trans ((Below.refl _ _).grown hgrow (by have := h1.bel.size; exact this) (fun j e => by have := (h.row.lt j e).1; omega))
end
/-- The ages ahead of place k. -/
def qB (P : Nat → Bool) (hi : Nat) (B : Nat → Bool) (t : Nat → Nat) : Nat → Nat → Bool
  | 0 => fun _ => false
  | k + 1 => qS P hi B t k
set_option maxRecDepth 100000 in
set_option maxHeartbeats 8000000 in
/-- The reference's Ends. -/
theorem rends_any {a b c d a' b' c' d' lo' hi' : Nat} {lo hi : Int} {P : Nat → Bool} (w : World) (zo : Option Addr) (l lc : Nat) (z : Nat → Int) (ao : Option Addr) (n cap : Nat) (t : Nat → Nat)
    (HM : ∀ w, Calls Try.prog 37 #[rgV a b c d lo hi] w fun e w' => e = .returned (rgV a' b' c' d' lo' hi') ∧ Below w.heap.size w w') (hP : C4 P a' b' c' d') (hhi : hi' ≤ 1000)
    (hz : RdI w zo l z) (hl : (l : Int) ≤ 9223372036854775807) (ht : RdB w ao n t) (hn : n ≤ 1000) :
    Calls Try.prog 9 #[rgV a b c d lo hi, .slice zo l lc, .slice ao n cap] w (RetInts w (come (accF P lo' hi' (among z l) t) (n + 1))) := by
  obtain ⟨i0, hi0, hz0, hz1, hz2⟩ := info_parts Try.info3'
  have hB0 := (Below.refl w.heap.size w).alloc (Nat.le_refl _) (.cells #[.int .u64 (a : Nat), .int .u64 (b : Nat), .int .u64 (c : Nat), .int .u64 (d : Nat), .int .i64 lo, .int .i64 hi] 26)
  have r0 := RgAt.new w a b c d lo hi
  obtain ⟨N, hN⟩ : ∃ N, hi' + 1 = N := ⟨_, rfl⟩
  have HNo : Hid (∀ w, Calls Try.prog 19 #[.agg #[.int .u64 (a : Nat), .int .u64 (b : Nat), .int .u64 (c : Nat), .int .u64 (d : Nat), .int .i64 lo, .int .i64 hi]] w (RetFr w N (fun _ => false))) := fun w => by rw [← hN]; exact rnone_any w HM hhi
  have HNx : Hid (∀ (W : World) (x : Value) (Q : Nat → Bool) (y : Nat), y < 256 → Sta W x N Q → Calls Try.prog 20 #[.agg #[.int .u64 (a : Nat), .int .u64 (b : Nat), .int .u64 (c : Nat), .int .u64 (d : Nat), .int .i64 lo, .int .i64 hi], x, .int .u8 (y : Nat)] W (RetFr W N fun i => P y && decide (1 ≤ i) && Q (i - 1) && decide (i < hi' + 1))) := fun W x Q y hy hx => by rw [← hN] at hx ⊢; exact rnext_any W y hy HM hP hhi hx
  have HTr : Hid (∀ (W : World) (x : Value) (Q : Nat → Bool), Sta W x N Q → Calls Try.prog 22 #[.agg #[.int .u64 (a : Nat), .int .u64 (b : Nat), .int .u64 (c : Nat), .int .u64 (d : Nat), .int .i64 lo, .int .i64 hi], x] W (RetFr W N fun i => Q i || decide ((i : Int) = 0 ∧ i < hi' + 1))) := fun W x Q hx => by rw [← hN] at hx ⊢; exact rtrig_any W HM hhi hx
  have HAc : Hid (∀ (W : World) (x : Value) (Q : Nat → Bool), Sta W x N Q → Calls Try.prog 23 #[.agg #[.int .u64 (a : Nat), .int .u64 (b : Nat), .int .u64 (c : Nat), .int .u64 (d : Nat), .int .i64 lo, .int .i64 hi], x] W (RetAc W lo' Q)) := fun W x Q hx => by rw [← hN] at hx; exact raccepts_any W HM hhi hx
  have HZ := hidM hz
  have HB := hidM ht
  clear HM hN hz ht
  unfold rgV
  go_enter Try.func9, Try.ntmps9
  go_upto_region 2 with fail
  generalize w.alloc (.cells #[.int .u64 (a : Nat), .int .u64 (b : Nat), .int .u64 (c : Nat), .int .u64 (d : Nat), .int .i64 lo, .int .i64 hi] 26) = W0 at *
  obtain ⟨⟨g0, g1, g2, g3, g4, g5⟩, -⟩ := r0.cells
  go_upto_region 3 with (go_at_call 19; refine (HNo.out W0).mono ?_; rintro e w1 ⟨so, sl, sc, sf, rfl, hr, hq, hs, hb1⟩)
  have hsz1 := hb1.size
  have hlt0 := r0.lt
  have h12 := (Below.refl w1.heap.size w1).alloc (Nat.le_refl _) (.cells #[.int .i64 (N : Nat), .slice so sl sc] 39)
  have hI : RqI w a b c d lo hi N [] (.slice none 0 0) w1.heap.size (fun _ => false) (w1.alloc (.cells #[.int .i64 (N : Nat), .slice so sl sc] 39)) :=
    ⟨(r0.below hb1).below h12, ⟨so, sl, sc, sf, Box.new _ _ _, hr.below h12, hs, fun q e hl => ⟨by have := hr.lo q e hl; omega, by simp [Value.ownBlock]⟩⟩, World.ownsRow_nil _ _ _ _, by omega, (hB0.trans (hb1.mono hB0.size)).trans (h12.mono (by have := hB0.size; omega))⟩
  generalize w1.alloc (.cells #[.int .i64 (N : Nat), .slice so sl sc] 39) = W1 at *
  generalize w1.heap.size = sb at *
  clear r0 g0 g1 g2 g3 g4 g5 hB0 hr hq hs hb1 hsz1 hlt0 h12
  have hcl := fun k => come_len (accF P lo' hi' (among z l) t) k
  have hcs := fun k => come_succ (accF P lo' hi' (among z l) t) k
  have HACC := hidM (fun j => qS_acc P lo' hi' (among z l) t j)
  have HCS := hidM hcs
  clear hcs
  go_wp2_with fail
  go_loopw [7, 9] (fun v i wr => ∃ k : Nat, k ≤ n + 1 ∧ i = .int .i64 k ∧ RqI w a b c d lo hi N (come (accF P lo' hi' (among z l) t) k) v sb (qB P hi' (among z l) t k) wr) (fun _ i _ => n + 1 - (intOf i).toNat)
  case atStart => exact ⟨0, Nat.zero_le _, rfl, hI⟩
  case round =>
    clear hI
    obtain ⟨k, hk, rfl, hR⟩ := hrel
    by_cases hlt : k < n + 1
    · have hki : (k : Int) ≤ (n : Int) := by omega
      go_upto_if 19 with fail
      go_cut [] (fun wx => RqI w a b c d lo hi N (come (accF P lo' hi' (among z l) t) k) u7 sb (qN P hi' (among z l) t k) wx)
      case first =>
        by_cases hk0 : k = 0
        · subst hk0
          go_wp2_with fail
          go_meet
          exact hR
        · obtain ⟨j, hj⟩ : ∃ j, k = j + 1 := ⟨k - 1, by omega⟩
          have HQ1 : Hid (qN P hi' (among z l) t k = fun i => P (t j) && decide (1 ≤ i) && qS P hi' (among z l) t j (i - 1) && decide (i < hi' + 1)) := by subst hj; exact rfl
          have hR' : RqI w a b c d lo hi N (come (accF P lo' hi' (among z l) t) k) u7 sb (qS P hi' (among z l) t j) wr := by subst hj; exact hR
          clear hR
          have hR := hR'
          clear hR'
          obtain ⟨bb, off, hao, hbl, hct⟩ := (HB.out.below hR.bel).at_ (by omega)
          have t1 := hct j (by omega)
          have hxs := HB.out.small j (by omega)
          subst hao
          have hji : (j : Int) < (n : Int) := by omega
          have hwj : IntKind.i64.wrap ((k : Int) - 1) = j := by rw [wrapi64_in _ (by omega) (by omega)]; omega
          have hpos : (0 : Int) < (k : Int) := by omega
          have hj0 : (0 : Int) ≤ (j : Int) := by omega
          clear hct hj hk0
          obtain ⟨so, sl, sc, sf, s1, s2, s3, s4⟩ := hR.st
          have HX : ∀ W, Below wr.heap.size wr W → Calls Try.prog 20 #[.agg #[.int .u64 (a : Nat), .int .u64 (b : Nat), .int .u64 (c : Nat), .int .u64 (d : Nat), .int .i64 lo, .int .i64 hi], .agg #[.int .i64 (N : Nat), .slice so sl sc], .int .u8 (t j : Nat)] W (RetFr W N fun i => P (t j) && decide (1 ≤ i) && qS P hi' (among z l) t j (i - 1) && decide (i < hi' + 1)) := fun W hW =>
            HNx.out W _ _ (t j) hxs ⟨N, so, sl, sc, sf, rfl, s2.below hW, .inl ⟨rfl, s3⟩⟩
          obtain ⟨c0, c1, f0, f1⟩ := s1.cells
          obtain ⟨⟨g0, g1, g2, g3, g4, g5⟩, -⟩ := hR.rg.cells
          generalize t j = y at *
          have HR := hidM hR
          have HS1 := hidM s1
          clear hR s1 s2 s3 s4
          go_wp2_with fail
          go_region_with (first | (go_at_call 20; refine (HX _ (Below.refl _ _).drew).mono ?_; rintro e w2 ⟨no, nl, nc, nf, rfl, hr2, hq2, hs2, hb2⟩; have hW2 : Below wr.heap.size wr w2 := (Below.refl _ _).drew.trans hb2; obtain ⟨c20, c21, f20, f21⟩ := (HS1.out.below hW2).cells))
          all_goals go_wp2_with fail
          all_goals go_meet
          all_goals
            rw [HQ1.out]
            exact HR.out.put hW2 hr2 hq2 hs2
      case rest =>
        clear hR
        have hR := hcut
        clear hcut
        have HMm := fun W => rmem_any zo l lc k z W
        have hrz := hidM (HZ.out.below hR.bel)
        go_upto_if 30 with (go_at_call 21; refine (HMm _ hrz.out hl).mono ?_; rintro e w3 ⟨rfl, rfl⟩)
        have HQ2 := hidM (fun i => qS_eq P hi' (among z l) t k i)
        go_cut [] (fun wx => RqI w a b c d lo hi N (come (accF P lo' hi' (among z l) t) k) u7 sb (qS P hi' (among z l) t k) wx)
        case first =>
          cases hB : among z l k with
          | false =>
            rw [hB] at HQ2
            clear hB
            go_wp2_with fail
            go_meet
            exact hR.congr fun i => by rw [HQ2.out i]; simp
          | true =>
            rw [hB] at HQ2
            clear hB
            obtain ⟨so, sl, sc, sf, s1, s2, s3, s4⟩ := hR.st
            have HX : ∀ W, Below wc.heap.size wc W → Calls Try.prog 22 #[.agg #[.int .u64 (a : Nat), .int .u64 (b : Nat), .int .u64 (c : Nat), .int .u64 (d : Nat), .int .i64 lo, .int .i64 hi], .agg #[.int .i64 (N : Nat), .slice so sl sc]] W (RetFr W N fun i => qN P hi' (among z l) t k i || decide ((i : Int) = 0 ∧ i < hi' + 1)) := fun W hW =>
              HTr.out W _ _ ⟨N, so, sl, sc, sf, rfl, s2.below hW, .inl ⟨rfl, s3⟩⟩
            obtain ⟨c0, c1, f0, f1⟩ := s1.cells
            obtain ⟨⟨g0, g1, g2, g3, g4, g5⟩, -⟩ := hR.rg.cells
            have HR := hidM hR
            have HS1 := hidM s1
            clear hR s1 s2 s3 s4
            go_wp2_with (go_at_call 22; refine (HX _ (Below.refl _ _)).mono ?_; rintro e w2 ⟨no, nl, nc, nf, rfl, hr2, hq2, hs2, hb2⟩; obtain ⟨c20, c21, f20, f21⟩ := (HS1.out.below hb2).cells)
            go_meet
            refine (HR.out.put hb2 hr2 hq2 hs2).congr fun i => ?_
            rw [HQ2.out i, Bool.true_and]
            congr 1
            rw [decide_eq_decide]
            omega
        case rest =>
          have hR := hcut
          clear hcut hrz HMm HQ2
          obtain ⟨so, sl, sc, sf, s1, s2, s3, s4⟩ := hR.st
          have HX := hidM (HAc.out _ _ _ ⟨N, so, sl, sc, sf, rfl, s2, .inl ⟨rfl, s3⟩⟩)
          obtain ⟨c0, c1, f0, f1⟩ := s1.cells
          obtain ⟨⟨g0, g1, g2, g3, g4, g5⟩, -⟩ := hR.rg.cells
          have HA1 := hidM (HACC.out k)
          have HC1 := hidM (HCS.out k)
          have hlk := hcl k
          obtain ⟨V, hV⟩ : ∃ V, accF P lo' hi' (among z l) t k = V := ⟨_, rfl⟩
          obtain ⟨L, hL⟩ : ∃ L, come (accF P lo' hi' (among z l) t) k = L := ⟨_, rfl⟩
          rw [hV] at HA1 HC1
          rw [hL] at HC1 hR hlk
          clear hV hL
          have HR := hidM hR
          clear hR s1 s2 s3 s4
          go_upto_if 36 with (go_at_call 23; refine HX.out.mono ?_; rintro e w4 ⟨⟨v, rfl, hv⟩, hb4⟩)
          have hvV : v = V := by rw [Bool.eq_iff_iff, hv, HA1.out]
          subst hvV
          have HR4 := hidM (HR.out.next hb4)
          clear HR HX HA1 hv hb4 c0 c1 f0 f1 g0 g1 g2 g3 g4 g5
          cases v with
          | false =>
            have HE : Hid (come (accF P lo' hi' (among z l) t) (k + 1) = L) := by have h := HC1.out; rw [if_neg (by decide), List.append_nil] at h; exact h
            clear HC1
            go_wp2_with fail
            go_roundw
            case rel => exact ⟨k + 1, by omega, by go_num, by rw [HE.out]; exact HR4.out⟩
            case measure => simp [intOf]; omega
          | true =>
            have HE : Hid (come (accF P lo' hi' (among z l) t) (k + 1) = L ++ [k]) := by have h := HC1.out; rw [if_pos rfl] at h; exact h
            clear HC1
            have hrow := HR4.out.row
            go_wp2_with (at_builtin; refine wpList_append_lies _ rfl _ _ 27 rfl (w.heap.size + 1) 3 i0 (.int .i64 0) 1 8 Try.underlying27 hi0 hz0 hz1 hz2 rfl (by decide) _ _ _ rfl (World.ownsRow.alloc hrow _) ⟨w4.heap.size, 0, none⟩ 1 1 [.int .i64 (k : Nat)] rfl rfl (cell_one_new _ _ _) (by simp [Value.oneCell']) (by decide) (by unfold maxLen; omega) (by omega) (by have := HR4.out.bel.size; have := HR4.out.rg.lt; simp; omega) (w4.heap.size + 1) (by simp) ?_; intro gk capk w6 hown' hgrow hkk _; have hI6 := hidM (HR4.out.app hown' hgrow ⟨gk, capk, rfl, hkk.imp id (fun h => by omega)⟩); clear hown' hgrow hkk)
            go_roundw
            case rel => exact ⟨k + 1, by omega, by go_num, by rw [HE.out]; exact hI6.out⟩
            case measure => simp [intOf]; omega
    · obtain rfl : k = n + 1 := by omega
      have hki : ¬ ((n + 1 : Nat) : Int) ≤ (n : Int) := by omega
      have hrow := hidM (ownsRow_mono hR.row (Nat.le_succ _))
      have hbl := hR.bel
      clear hR
      go_wp2
      go_ret
      exact ⟨_, rfl, hrow.out, hbl⟩
end Go.Proofs.Ytehlmjjdegmnaaa
