/- Spans: the walk. -/
import Derived.Test.YtiiecppkabdkgabDoorGSyEnBg
import Derived.Deep.RegionLaw
namespace Go.Proofs.YtiiecppkabdkgabDoor
open Go.RowKit Go.Shelf
attribute [local go_sem] Oper.semAt_some
def fr12 (mu : Bool) (wv : Value) (h0 lb tt N : Nat) (r : Int) (u : Nat → Value) : Array Value := #[u 0, .bool mu, wv, .pointer (some ⟨h0, 0, none⟩), u 4, u 5, u 6, .pointer (some ⟨lb, 0, none⟩), u 8, u 9, u 10, u 11, u 12, u 13, u 14, u 15, u 16, u 17, u 18, u 19, u 20, .slice (some ⟨tt, 0, none⟩) N N, .int .i64 (N : Nat), .int .i64 r, u 24, u 25, u 26, u 27, u 28, u 29, u 30, u 31, u 32, u 33, u 34, u 35, u 36, u 37, u 38, u 39, u 40, u 41, u 42, u 43, u 44, u 45, u 46, u 47]
def Fr12 (mu : Bool) (wv : Value) (h0 lb tt N : Nat) (r : Int) (tm : Array Value) : Prop := ∃ u, tm = fr12 mu wv h0 lb tt N r u
theorem Fr12.of {mu : Bool} {wv : Value} {h0 lb tt N : Nat} {r : Int} (tm : Array Value) (h : tm = fr12 mu wv h0 lb tt N r (nth tm.toList)) : Fr12 mu wv h0 lb tt N r tm := ⟨_, h⟩
def fs12 (mu : Bool) (wv : Value) (h0 lb tt N ib : Nat) (r d : Int) (u : Nat → Value) : Array Value := #[u 0, .bool mu, wv, .pointer (some ⟨h0, 0, none⟩), u 4, u 5, u 6, .pointer (some ⟨lb, 0, none⟩), .pointer (some ⟨ib, 0, none⟩), u 9, .int .i64 d, u 11, u 12, u 13, u 14, u 15, u 16, u 17, u 18, u 19, u 20, .slice (some ⟨tt, 0, none⟩) N N, .int .i64 (N : Nat), .int .i64 r, u 24, u 25, u 26, u 27, u 28, u 29, u 30, u 31, u 32, u 33, u 34, u 35, u 36, u 37, u 38, u 39, u 40, u 41, u 42, u 43, u 44, u 45, u 46, u 47]
def Fs12 (mu : Bool) (wv : Value) (h0 lb tt N ib : Nat) (r d : Int) (tm : Array Value) : Prop := ∃ u, tm = fs12 mu wv h0 lb tt N ib r d u
theorem Fs12.of {mu : Bool} {wv : Value} {h0 lb tt N ib : Nat} {r d : Int} (tm : Array Value) (h : tm = fs12 mu wv h0 lb tt N ib r d (nth tm.toList)) : Fs12 mu wv h0 lb tt N ib r d tm := ⟨_, h⟩

def bools (p : Nat → Bool) (n : Nat) : List Value := (List.range n).map fun j => Value.bool (p j)
theorem bools_len (p : Nat → Bool) (n : Nat) : (bools p n).length = n := by simp [bools]
theorem bools_get (p : Nat → Bool) {n i : Nat} (h : i < n) : (bools p n)[i]? = some (.bool (p i)) := by simp [bools, h]
theorem bools_congr {p q : Nat → Bool} {n : Nat} (h : ∀ i, i < n → p i = q i) : bools p n = bools q n := by
  unfold bools
  apply List.map_congr_left
  intro i hi
  rw [h i (List.mem_range.1 hi)]
theorem bools_set {p q : Nat → Bool} {n i : Nat} (h : q i = true) (hq : ∀ j, j ≠ i → q j = p j) : (bools p n).set i (.bool true) = bools q n := by
  apply List.ext_getElem?
  intro j
  rw [List.getElem?_set]
  by_cases hj : i = j
  · subst hj
    rw [if_pos rfl, bools_len]
    by_cases hi : i < n
    · rw [if_pos hi, bools_get _ hi, h]
    · rw [if_neg hi, List.getElem?_eq_none (by rw [bools_len]; omega)]
  · rw [if_neg hj]
    by_cases hi : j < n
    · rw [bools_get _ hi, bools_get _ hi, hq j (fun e => hj e.symm)]
    · rw [List.getElem?_eq_none (by rw [bools_len]; omega), List.getElem?_eq_none (by rw [bools_len]; omega)]
/-- A row of a table, by the places at which spans end. -/
def spB (T : Tab) (i j : Nat) : Bool := decide (i ≤ j) && T i (j - i)
def spP (r : Nat) (S : List Nat) (j : Nat) : Bool := S.any fun d => decide (r + d = j)
theorem spP_all {N : Nat} (hN : N ≤ 25) (T : Tab) (r : Nat) {j : Nat} (hj : j < N) : spP r (come (wrd N T r).testBit 64) j = spB T r j := by
  unfold spP spB
  rw [Bool.eq_iff_iff, List.any_eq_true, Bool.and_eq_true, decide_eq_true_eq]
  constructor
  · rintro ⟨d, hd, h⟩
    obtain ⟨_, hb⟩ := come_mem.1 hd
    rw [wrd_bit hN] at hb
    simp at hb h
    subst h
    exact ⟨by omega, by rw [Nat.add_sub_cancel_left]; exact hb.2⟩
  · rintro ⟨h1, h2⟩
    refine ⟨j - r, come_mem.2 ⟨by omega, ?_⟩, by simp; omega⟩
    rw [wrd_bit hN, h2]
    simp; omega
theorem b_bool : (Tryd.prog.info? 4).map (fun i => (i.zero, i.size, i.bytes)) = some (some (.bool false), 1, 1) := by kernel_rfl
theorem b_brow : (Tryd.prog.info? 33).map (fun i => (i.zero, i.size, i.bytes)) = some (some (.slice none 0 0), 1, 24) := by kernel_rfl
theorem make_any {P : Program} {st e : TypeId} {z : Value} {bt : Nat} (n : Nat) (hn : n ≤ 25) (hu : P.underlying st = some (.slice e)) (hi : (P.info? e).map (fun i => (i.zero, i.size, i.bytes)) = some (some z, 1, bt)) (hb : bt ≤ 24) (hz : z.cells = #[z]) (w : World) : (Instr.makeSlice st (.int .i64 (n : Nat)) (.int .i64 (n : Nat))).run P w = .ok (.slice (some ⟨w.heap.size, 0, none⟩) n n) (w.alloc (.cells (vals (fun _ => z) n).toArray e)) := by
  obtain ⟨i, hi, hz', hs, hbt⟩ := info_parts hi
  have := run_make (P := P) w st e i _ hu hi hz' .i64 .i64 (n : Int) (n : Int) (by omega) (by omega) (by rw [hbt]; have h9 : bt * n ≤ 24 * 25 := Nat.mul_le_mul hb hn; have h8 : ((bt * n : Nat) : Int) ≤ ((24 * 25 : Nat) : Int) := Int.ofNat_le.2 h9; rw [Int.natCast_mul] at h8; omega) (by omega)
  rw [this, hs]
  have e : madeCells #[z] (n * 1) = (vals (fun _ => z) n).toArray := by
    apply Array.ext_getElem?
    intro q
    rw [Nat.mul_one]
    by_cases hq : q < n
    · have hs : q < (madeCells #[z] n).size := by rw [size_madeCells]; exact hq
      rw [Array.getElem?_eq_getElem hs, List.getElem?_toArray, vals_get _ hq]
      simp [madeCells, Array.getElem_map, Nat.mod_one]
    · rw [Array.getElem?_eq_none (by rw [size_madeCells]; omega), Array.getElem?_eq_none (by simp [vals_len]; omega)]
  rw [Nat.mul_one] at e
  simp [hz, e]
/-- The rows of a table of bools up to a place. -/
def BRows (W : World) (B tb N r : Nat) (T : Tab) : Prop := ∃ M : Nat → Value, Cl W tb 33 (vals M N) ∧ ∀ i, i < r → ∃ b, B ≤ b ∧ M i = .slice (some ⟨b, 0, none⟩) N N ∧ Cl W b 4 (bools (spB T i) N)
/-- What stands between the rounds of the outer loop. -/
structure SpI (w : World) (N lb tb tt r : Nat) (T : Tab) (ms : List Nat) (W : World) : Prop where
  le : r ≤ N
  box : Cl W lb 31 [.slice (some ⟨tb, 0, none⟩) N N]
  row : BRows W w.heap.size tb N r T
  tab : Rows W tt N 0 (wrd N T)
  tz : TabZ W
  bel : Below w.heap.size w W
  tbl : w.heap.size ≤ tb
  mks : Marks W ms
  mlo : ∀ k ∈ ms, w.heap.size ≤ k
theorem BRows.below {W W' : World} {B tb N r : Nat} {T : Tab} (h : BRows W B tb N r T) (hb : Below W.heap.size W W') : BRows W' B tb N r T := by
  obtain ⟨M, h1, h2⟩ := h
  refine ⟨M, h1.below hb, fun i hi => ?_⟩
  obtain ⟨b, h3, h4, h5⟩ := h2 i hi
  exact ⟨b, h3, h4, h5.below hb⟩
theorem BRows.lt {W : World} {B tb N r : Nat} {T : Tab} (h : BRows W B tb N r T) : tb < W.heap.size := by
  obtain ⟨M, h1, _⟩ := h
  exact h1.lt
theorem SpI.below {w V A : World} {N lb tb tt r : Nat} {T : Tab} {ms : List Nat} (hV : SpI w N lb tb tt r T ms V) (hb : Below V.heap.size V A) : SpI w N lb tb tt r T ms A :=
  ⟨hV.le, hV.box.below hb, hV.row.below hb, hV.tab.below hb, hV.tz.below hb, hV.bel.trans (hb.mono hV.bel.size), hV.tbl, ⟨hV.mks.nodup, fun k hk => by rw [hb.block k (hV.mks.lt k hk)]; exact hV.mks.at_ k hk⟩, hV.mlo⟩
/-- A new row, of noughts, in its place. -/
structure SpN (w : World) (N lb tb tt r rb : Nat) (T : Tab) (ms : List Nat) (W : World) : Prop where
  in_ : SpI w N lb tb tt r T ms W
  put : W.cell? ⟨tb, r, none⟩ = some (.slice (some ⟨rb, 0, none⟩) N N)
  new : Cl W rb 4 (bools (fun _ => false) N)
  off : ∀ M : Nat → Value, Cl W tb 33 (vals M N) → ∀ i, i < r → M i ≠ .slice (some ⟨rb, 0, none⟩) N N
  lo : w.heap.size ≤ rb
/-- What stands between the rounds of the inner one. -/
structure SqI (V : World) (N rb r : Nat) (l : List Nat) (i : Nat) (A : World) : Prop where
  row : Cl A rb 4 (bools (spP r (l.take i)) N)
  but : But1 rb V A
theorem SqI.turn {V : World} {N rb r : Nat} {l : List Nat} {i : Nat} {A B : World} (h : SqI V N rb r l i A) (hV : rb < V.heap.size) (ht : Turn V.heap.size A B) : SqI V N rb r l i B :=
  ⟨by unfold Cl; rw [ht.block rb h.row.lt (.inl hV)]; exact h.row, h.but.turn ht⟩
theorem SqI.step {V A : World} {N rb r i d : Nat} {l : List Nat} (h : SqI V N rb r l i A) (hd : l[i]? = some d) : SqI V N rb r l (i + 1) (A.setCell ⟨rb, r + d, none⟩ (.bool true)) := by
  refine ⟨?_, h.but.set _ _⟩
  have := h.row.set (r + d) (.bool true)
  rwa [bools_set (q := spP r (l.take (i + 1)))] at this
  · rw [take_snoc hd]; simp [spP]
  · intro j hj
    rw [take_snoc hd]
    simp [spP]
    intro e; omega
theorem SpI.next {w V A : World} {N lb tb tt r rb : Nat} {T : Tab} {ms : List Nat} (hN : N ≤ 25) (hr : r < N) (hS : SpN w N lb tb tt r rb T ms V) (hA : SqI V N rb r (come (wrd N T r).testBit 64) (come (wrd N T r).testBit 64).length A) (hD : A.heap[V.heap.size]? = some (.deferred (some []))) (h0 : 0 < w.heap.size) : SpI w N lb tb tt (r + 1) T (V.heap.size :: ms) A := by
  have hb := hA.but
  have hV := hS.in_
  have hrow := hA.row
  rw [List.take_of_length_le (Nat.le_refl _), bools_congr (fun j hj => spP_all hN T r hj)] at hrow
  have hne : lb ≠ rb := hS.new.ne hV.box (by decide)
  refine ⟨hr, hV.box.but hb hne, ?_, hV.tab.but hb hS.new (by decide) (by decide), hV.tz.but hb (by have := hS.lo; omega), hb.below hS.lo hV.bel (Nat.le_refl _), hV.tbl, (hV.mks.but hb hS.new).cons hD (fun k hk => hV.mks.lt k hk), fun k hk => ?_⟩
  · obtain ⟨M, h1, h2⟩ := hV.row
    refine ⟨M, h1.but hb (hS.new.ne h1 (by decide)), fun i hi => ?_⟩
    by_cases he : i = r
    · subst he
      refine ⟨rb, hS.lo, ?_, hrow⟩
      have := h1.cell i (vals_get M hr)
      rw [hS.put] at this
      injection this with this
      exact this.symm
    · obtain ⟨b, h3, h4, h5⟩ := h2 i (by omega)
      refine ⟨b, h3, h4, h5.but hb fun e => ?_⟩
      subst e
      exact hS.off M h1 i (by omega) h4
  · rcases List.mem_cons.1 hk with rfl | hk
    · exact hV.bel.size
    · exact hV.mlo k hk
theorem SpN.of {w W W' : World} {N lb tb tt r rb : Nat} {T : Tab} {ms : List Nat} (hr : r < N) (h : SpI w N lb tb tt r T ms W) (hpos : 0 < w.heap.size) (hrb : rb = W.heap.size) (hW : W' = (W.alloc (.cells (bools (fun _ => false) N).toArray 4)).setCell ⟨tb, r, none⟩ (.slice (some ⟨rb, 0, none⟩) N N)) : SpN w N lb tb tt r rb T ms W' := by
  subst hW hrb
  obtain ⟨M, h1, h2⟩ := h.row
  have htb := h1.lt
  have hb1 := below1 W (.cells (bools (fun _ => false) N).toArray 4)
  have I1 := h.below hb1
  have k1 := h1.below hb1
  have kn := Cl.new W 4 (bools (fun _ => false) N)
  have hbut : But1 tb (W.alloc (.cells (bools (fun _ => false) N).toArray 4)) ((W.alloc (.cells (bools (fun _ => false) N).toArray 4)).setCell ⟨tb, r, none⟩ (.slice (some ⟨W.heap.size, 0, none⟩) N N)) := (But1.refl _ _).set _ _
  have k2 := k1.set r (.slice (some ⟨W.heap.size, 0, none⟩) N N)
  rw [vals_set] at k2
  refine ⟨⟨h.le, I1.box.but hbut (k1.ne I1.box (by decide)), ⟨_, k2, fun i hi => ?_⟩, I1.tab.but hbut k1 (by decide) (by decide), I1.tz.but hbut (by have := h.tbl; omega), hbut.below h.tbl I1.bel (Nat.le_refl _), h.tbl, I1.mks.but hbut k1, h.mlo⟩, ?_, kn.but hbut (by omega), fun M' hM' i hi => ?_, h.bel.size⟩
  · obtain ⟨b, h3, h4, h5⟩ := h2 i hi
    refine ⟨b, h3, by simp only [updV, show ¬ i = r by omega, if_false]; exact h4, (h5.below hb1).but hbut (k1.ne (h5.below hb1) (by decide))⟩
  · exact k2.cell r (by rw [vals_get _ hr]; simp [updV])
  · have e1 := hM'.cell i (vals_get M' (by omega))
    have e2 := k2.cell i (vals_get _ (show i < N by omega))
    rw [e1] at e2
    injection e2 with e2
    obtain ⟨b, h3, h4, h5⟩ := h2 i hi
    rw [e2]
    simp only [updV, show ¬ i = r by omega, if_false]
    rw [h4]
    intro e
    have h6 := h5.lt
    injection e with e
    injection e with e
    injection e with e
    omega
/-- What a call answers that makes a table of bools. -/
def RetB (w : World) (N : Nat) (T : Tab) (e : Ending) (w' : World) : Prop := ∃ tb, e = .returned (.slice (some ⟨tb, 0, none⟩) N N) ∧ BRows w' w.heap.size tb N N T ∧ Below w.heap.size w w' ∧ w.heap.size ≤ tb
theorem BRows.alike {A B : World} {ms : List Nat} {b tb N r : Nat} {T : Tab} (h : BRows A b tb N r T) (hm : Marks A ms) (ha : Alike ms A B) : BRows B b tb N r T := by
  obtain ⟨M, h1, h2⟩ := h
  refine ⟨M, h1.alike hm ha, fun i hi => ?_⟩
  obtain ⟨b, h3, h4, h5⟩ := h2 i hi
  exact ⟨b, h3, h4, h5.alike hm ha⟩
end Go.Proofs.YtiiecppkabdkgabDoor
