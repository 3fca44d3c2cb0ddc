/- Mirror: its room, its loop. -/
import Derived.Test.YtgedhjflminlbaaMb
import Derived.Test.YtgedhjflminlbaaMj
import Derived.Test.YtgedhjflminlbaaMi
import Derived.Test.YtgedhjflminlbaaRp
import Derived.Test.YtgedhjflminlbaaMv
import Derived.Sort.CutIn
import Derived.Sort.BigQuietIn
import Derived.BigRegionIn
namespace Go.Proofs.Ytgedhjflminlbaa
open Go.RowKit Go.Shelf
attribute [local go_sem] Oper.semAt_some
def zN : Nd := ⟨0, 0, 0, 0, 0, 0, 0, 0, 0, false⟩
theorem made_nodes (n : Nat) : madeCells #[Value.int .i64 0, .int .u64 0, .int .u64 0, .int .u64 0, .int .u64 0, .int .i64 0, .int .i64 0, .int .i64 0, .int .i64 0, .bool false] (n * 10) = (ndsL (fun _ => zN) n).toArray := by
  apply Array.ext_getElem?
  intro q
  by_cases hq : q < n * 10
  · have hd : q = q / 10 * 10 + q % 10 := by omega
    have h10 : q % 10 < 10 := by omega
    have hs : q < (madeCells #[Value.int .i64 0, .int .u64 0, .int .u64 0, .int .u64 0, .int .u64 0, .int .i64 0, .int .i64 0, .int .i64 0, .int .i64 0, .bool false] (n * 10)).size := by rw [size_madeCells]; exact hq
    rw [Array.getElem?_eq_getElem hs, List.getElem?_toArray]
    conv => rhs; rw [hd]
    rw [ndsL_get _ _ _ _ (by omega) h10]
    simp only [madeCells, Array.getElem_map, Array.getElem_range]
    rcases ten h10 with h | h | h | h | h | h | h | h | h | h <;> simp [h, ndL, zN]
  · rw [Array.getElem?_eq_none (by rw [size_madeCells]; omega), Array.getElem?_eq_none (by simp [ndsL_len]; omega)]
theorem make_nodes (n : Nat) (hn : n ≤ 2048) (w : World) : (Instr.makeSlice 22 (.int .i64 (n : Nat)) (.int .i64 (n : Nat))).run Try.prog w = .ok (.slice (some ⟨w.heap.size, 0, none⟩) n n) (w.alloc (.cells (ndsL (fun _ => zN) n).toArray 29)) := by
  obtain ⟨i, hi, hz, hs, hb⟩ := info_parts b_node
  have := run_make (P := Try.prog) w 22 29 i _ Try.underlying22 hi hz .i64 .i64 (n : Int) (n : Int) (by omega) (by omega) (by rw [hb]; omega) (by omega)
  rw [this, hs]
  simp [Value.cells, made_nodes]
def Fr17 (X1 X2 X3 X4 X5 nb p : Nat) (tm : Array Value) : Prop := ∃ u, tm = fr17 X1 X2 X3 X4 X5 nb p u
theorem Fr17.of {X1 X2 X3 X4 X5 nb p : Nat} (tm : Array Value) (h : tm = fr17 X1 X2 X3 X4 X5 nb p (nth tm.toList)) : Fr17 X1 X2 X3 X4 X5 nb p tm := ⟨_, h⟩
theorem stF_at {t : Tre} {p : Nat} {u : Tre} (h : t.subs[p]? = some u) : stF t p = (p : Int) + 1 - u.size := by simp [stF, h]
theorem own_cl {W : World} {B b n : Nat} {F : Nat → Nd} (h : Cl W b 29 (ndsL F n)) (hB : B ≤ b) (hn : n ≤ 2048) : OwN W B (some ⟨b, 0, none⟩) n n F := by
  refine ⟨ndsL_len F n, .inr ⟨b, n, (ndsL F n).toArray, rfl, hB, h, Nat.le_refl _, by unfold maxLen; omega, by simp [ndsL_len], ?_⟩⟩
  simp [← ndsL_len F n]
/-- What stands behind i rounds. -/
structure MI (w : World) (t : Tre) (N1 b1 cap1 : Nat) (a1 : Addr) (i : Nat) (W : World) (T : Nat → Nd) (g : Nat → Int) : Prop where
  inv : Inv t i T g
  sz : N1 + 6 ≤ W.heap.size
  k2 : Cl W (w.heap.size + 1) 24 [.slice none 0 0]
  k3 : Cl W N1 50 [.slice (some ⟨b1, 0, none⟩) t.size t.size]
  kF : Cl W b1 3 (ints (stF t) t.size)
  kT : Cl W (N1 + 1) 29 (ndsL T t.size)
  k4 : Cl W (N1 + 1 + 1) 22 [.slice (some ⟨N1 + 1, 0, none⟩) t.size t.size]
  kB : Cl W (N1 + 1 + 1 + 1) 3 (ints g t.size)
  k5 : Cl W (N1 + 1 + 1 + 1 + 1) 50 [.slice (some ⟨N1 + 1 + 1 + 1, 0, none⟩) t.size t.size]
  bel : Below w.heap.size w W
theorem Cl.turn {b : Nat} {A B : World} (h : Turn b A B) {x : Nat} {ty : TypeId} {vs : List Value} (k : Cl A x ty vs) (hx : x < b) : Cl B x ty vs := by unfold Cl; rw [h.block x k.lt (.inl hx)]; exact k
theorem MI.turn {w : World} {t : Tre} {N1 b1 cap1 : Nat} {a1 : Addr} {i : Nat} {A B : World} {T : Nat → Nd} {g : Nat → Int} (h : MI w t N1 b1 cap1 a1 i A T g) (hb1 : b1 < N1) (hw : w.heap.size + 2 ≤ N1) (ht : Turn (N1 + 6) A B) : MI w t N1 b1 cap1 a1 i B T g :=
  ⟨h.inv, Nat.le_trans h.sz ht.size, h.k2.turn ht (by omega), h.k3.turn ht (by omega), h.kF.turn ht (by omega), h.kT.turn ht (by omega), h.k4.turn ht (by omega), h.kB.turn ht (by omega), h.k5.turn ht (by omega),
   ⟨ht.os.trans h.bel.os, ht.tape.trans h.bel.tape, ht.output.trans h.bel.output, Nat.le_trans h.bel.size ht.size, fun k hk => (ht.block k (Nat.lt_of_lt_of_le hk h.bel.size) (.inl (by omega))).trans (h.bel.block k hk)⟩⟩
theorem MI.next {w : World} {t : Tre} {N1 b1 cap1 : Nat} {a1 : Addr} {i nb : Nat} {A B : World} {T T' : Nat → Nd} {g g' : Nat → Int} (h : MI w t N1 b1 cap1 a1 i A T g) (hb1 : b1 < N1) (hw : w.heap.size + 2 ≤ N1) (hnb : N1 + 8 ≤ nb) (hbut : But3 (N1 + 1) (N1 + 1 + 1 + 1) nb A B) (hT : Cl B (N1 + 1) 29 (ndsL T' t.size)) (hG : Cl B (N1 + 1 + 1 + 1) 3 (ints g' t.size)) (hI : Inv t (i + 1) T' g') : MI w t N1 b1 cap1 a1 (i + 1) B T' g' :=
  ⟨hI, Nat.le_trans h.sz hbut.size, hbut.cl h.k2 (by omega) (by omega) (by omega), hbut.cl h.k3 (by omega) (by omega) (by omega), hbut.cl h.kF (by omega) (by omega) (by omega), hT, hbut.cl h.k4 (by omega) (by omega) (by omega), hG, hbut.cl h.k5 (by omega) (by omega) (by omega),
   ⟨hbut.os.trans h.bel.os, hbut.tape.trans h.bel.tape, hbut.output.trans h.bel.output, Nat.le_trans h.bel.size hbut.size, fun k hk => (hbut.block k (Nat.lt_of_lt_of_le hk h.bel.size) (by omega) (by omega) (by omega)).trans (h.bel.block k hk)⟩⟩
set_option maxRecDepth 100000 in
set_option maxHeartbeats 4000000 in
theorem mirror_any (a : Option Addr) (n c : Nat) (F : Nat → Nd) (w : World) (ha : RdN w a n F) (hn : (n : Int) ≤ 9223372036854775807) (hca : n ≤ c) : Calls Try.prog 17 #[.agg #[.slice a n c]] w (RetT w (snd F n).size (nodes (mir (snd F n)))) := by
  obtain ⟨ox, sx⟩ := snd_ok F n
  have px := (snd F n).size_pos
  have hW0 := below2 w (.cells #[.slice a n c] 24) (.cells #[.slice none 0 0] 24)
  have HA := sound_any a n c F _ (ha.below hW0) hn hca
  clear ha
  generalize snd F n = t at *
  have ka : Cl ((w.alloc (.cells #[.slice a n c] 24)).alloc (.cells #[.slice none 0 0] 24)) w.heap.size 24 [.slice a n c] := (Cl.new w 24 [.slice a n c]).alloc _
  have kr : Cl ((w.alloc (.cells #[.slice a n c] 24)).alloc (.cells #[.slice none 0 0] 24)) (w.heap.size + 1) 24 [.slice none 0 0] := by
    have := Cl.new (w.alloc (.cells #[.slice a n c] 24)) 24 [.slice none 0 0]
    simpa only [World.size_alloc] using this
  have hmk := make_nodes t.size sx
  have hmi := make_ints t.size sx
  refine (callsIn_wide (n := 5)).1 ?_
  refine callsIn_of_wp_marks Try.func17 rfl trivial ?_ rfl
  simp only [Try.ntmps17, List.size_toArray, List.length_cons, List.length_nil, Nat.reduceAdd, Nat.reduceSub, Array.replicate_succ, Array.replicate_zero, List.push_toArray, List.append_toArray, List.nil_append, List.cons_append]
  gi_upto_region 2 with (refine ⟨trivial, ?_⟩; gi_at_call 36; refine (callsIn_wide.2 HA).mono ?_; rintro e w1 ⟨a1, cap1, b1, rfl, hr1, ⟨hb1, hcap1⟩, hc1, hB1⟩; have ka1 := ka.below hB1; have hsz1 := hB1.size; simp only [World.size_alloc] at hsz1 hb1; have kx := ka1.alloc (.cells #[.slice none 0 0] 50); obtain ⟨d1, d2⟩ := kx.one; have ky := (Cl.new w1 50 [.slice none 0 0]).other (k := w.heap.size) (by omega) 0 (.slice (some a1) t.size cap1); obtain ⟨d3, d4⟩ := ky.one)
  have hbb1 := hc1.lt
  have k1 := (kx.set 0 (.slice (some a1) t.size cap1)).other (k := w1.heap.size) (by omega) 0 (.slice (some ⟨b1, 0, none⟩) t.size t.size)
  have k2 := (((kr.below hB1).alloc (.cells #[.slice none 0 0] 50)).other (k := w.heap.size) (by omega) 0 (.slice (some a1) t.size cap1)).other (k := w1.heap.size) (by omega) 0 (.slice (some ⟨b1, 0, none⟩) t.size t.size)
  have k3 := ky.set 0 (.slice (some ⟨b1, 0, none⟩) t.size t.size)
  have kF := ((hc1.alloc (.cells #[.slice none 0 0] 50)).other (k := w.heap.size) (by omega) 0 (.slice (some a1) t.size cap1)).other (k := w1.heap.size) (by omega) 0 (.slice (some ⟨b1, 0, none⟩) t.size t.size)
  have hrd := ((hr1.below (below1 w1 (.cells #[.slice none 0 0] 50))).put kx (.slice (some a1) t.size cap1)).put ky (.slice (some ⟨b1, 0, none⟩) t.size t.size)
  have hBV : Below w.heap.size w (((w1.alloc (.cells #[.slice none 0 0] 50)).setCell ⟨w.heap.size, 0, none⟩ (.slice (some a1) t.size cap1)).setCell ⟨w1.heap.size, 0, none⟩ (.slice (some ⟨b1, 0, none⟩) t.size t.size)) := (((hW0.trans (hB1.mono (by simp; omega))).alloc (by omega) _).setCell (p := ⟨w.heap.size, 0, none⟩) (Nat.le_refl _) _).setCell (p := ⟨w1.heap.size, 0, none⟩) (by simp; omega) _
  have hszV : (((w1.alloc (.cells #[.slice none 0 0] 50)).setCell ⟨w.heap.size, 0, none⟩ (.slice (some a1) t.size cap1)).setCell ⟨w1.heap.size, 0, none⟩ (.slice (some ⟨b1, 0, none⟩) t.size t.size)).heap.size = w1.heap.size + 1 := by simp
  simp only [List.set_cons_zero] at k1 k3
  clear d1 d2 d3 d4 kx ky hc1 hr1 hB1 ka1 ka kr hW0 HA
  generalize ((w1.alloc (.cells #[.slice none 0 0] 50)).setCell ⟨w.heap.size, 0, none⟩ (.slice (some a1) t.size cap1)).setCell ⟨w1.heap.size, 0, none⟩ (.slice (some ⟨b1, 0, none⟩) t.size t.size) = V at *
  generalize w1.heap.size = N1 at *
  have e0 := k1.cell 0 rfl
  have e1 := ((k1.alloc (.cells (ndsL (fun _ => zN) t.size).toArray 29)).alloc (.cells #[.slice (some ⟨N1 + 1, 0, none⟩) t.size t.size] 22)).cell 0 rfl
  have e2 := ((((k1.alloc (.cells (ndsL (fun _ => zN) t.size).toArray 29)).alloc (.cells #[.slice (some ⟨N1 + 1, 0, none⟩) t.size t.size] 22)).alloc (.cells (ints (fun _ => 0) t.size).toArray 3)).alloc (.cells #[.slice (some ⟨N1 + 1 + 1 + 1, 0, none⟩) t.size t.size] 50)).cell 0 rfl
  have K0 : MI w t N1 b1 cap1 a1 0 (((((V.alloc (.cells (ndsL (fun _ => zN) t.size).toArray 29)).alloc (.cells #[.slice (some ⟨N1 + 1, 0, none⟩) t.size t.size] 22)).alloc (.cells (ints (fun _ => 0) t.size).toArray 3)).alloc (.cells #[.slice (some ⟨N1 + 1 + 1 + 1, 0, none⟩) t.size t.size] 50)).alloc (.cells #[.slice (some a1) t.size cap1] 22)) (fun _ => zN) (fun _ => 0) := by
    have q0 := Cl.new V 29 (ndsL (fun _ => zN) t.size)
    have q1 := Cl.new (V.alloc (.cells (ndsL (fun _ => zN) t.size).toArray 29)) 22 [.slice (some ⟨N1 + 1, 0, none⟩) t.size t.size]
    have q2 := Cl.new ((V.alloc (.cells (ndsL (fun _ => zN) t.size).toArray 29)).alloc (.cells #[.slice (some ⟨N1 + 1, 0, none⟩) t.size t.size] 22)) 3 (ints (fun _ => 0) t.size)
    have q3 := Cl.new (((V.alloc (.cells (ndsL (fun _ => zN) t.size).toArray 29)).alloc (.cells #[.slice (some ⟨N1 + 1, 0, none⟩) t.size t.size] 22)).alloc (.cells (ints (fun _ => 0) t.size).toArray 3)) 50 [.slice (some ⟨N1 + 1 + 1 + 1, 0, none⟩) t.size t.size]
    simp only [World.size_alloc, hszV] at q0 q1 q2 q3
    refine ⟨Inv.start t _, by simp; omega, ((((k2.alloc _).alloc _).alloc _).alloc _).alloc _, ((((k3.alloc _).alloc _).alloc _).alloc _).alloc _, ((((kF.alloc _).alloc _).alloc _).alloc _).alloc _, (((q0.alloc _).alloc _).alloc _).alloc _, ((q1.alloc _).alloc _).alloc _, (q2.alloc _).alloc _, q3.alloc _, ?_⟩
    exact ((((hBV.alloc (by omega) _).alloc (by simp; omega) _).alloc (by simp; omega) _).alloc (by simp; omega) _).alloc (by simp; omega) _
  have KX : Cl (((((V.alloc (.cells (ndsL (fun _ => zN) t.size).toArray 29)).alloc (.cells #[.slice (some ⟨N1 + 1, 0, none⟩) t.size t.size] 22)).alloc (.cells (ints (fun _ => 0) t.size).toArray 3)).alloc (.cells #[.slice (some ⟨N1 + 1 + 1 + 1, 0, none⟩) t.size t.size] 50)).alloc (.cells #[.slice (some a1) t.size cap1] 22)) (N1 + 1 + 1 + 1 + 1 + 1) 22 [.slice (some a1) t.size cap1] := by
    have q4 := Cl.new ((((V.alloc (.cells (ndsL (fun _ => zN) t.size).toArray 29)).alloc (.cells #[.slice (some ⟨N1 + 1, 0, none⟩) t.size t.size] 22)).alloc (.cells (ints (fun _ => 0) t.size).toArray 3)).alloc (.cells #[.slice (some ⟨N1 + 1 + 1 + 1, 0, none⟩) t.size t.size] 50)) 22 [.slice (some a1) t.size cap1]
    simpa only [World.size_alloc, hszV] using q4
  have hlta : a1.block < N1 + 1 := by
    obtain ⟨bb, off, ea, hlt, _⟩ := hrd px
    obtain rfl := Option.some.inj ea
    show bb < N1 + 1
    omega
  have RX : RdN (((((V.alloc (.cells (ndsL (fun _ => zN) t.size).toArray 29)).alloc (.cells #[.slice (some ⟨N1 + 1, 0, none⟩) t.size t.size] 22)).alloc (.cells (ints (fun _ => 0) t.size).toArray 3)).alloc (.cells #[.slice (some ⟨N1 + 1 + 1 + 1, 0, none⟩) t.size t.size] 50)).alloc (.cells #[.slice (some a1) t.size cap1] 22)) (some a1) t.size (nodes t) := ((((hrd.below (below1 _ _)).below (below1 _ _)).below (below1 _ _)).below (below1 _ _)).below (below1 _ _)
  have hsz6 : (((((V.alloc (.cells (ndsL (fun _ => zN) t.size).toArray 29)).alloc (.cells #[.slice (some ⟨N1 + 1, 0, none⟩) t.size t.size] 22)).alloc (.cells (ints (fun _ => 0) t.size).toArray 3)).alloc (.cells #[.slice (some ⟨N1 + 1 + 1 + 1, 0, none⟩) t.size t.size] 50)).alloc (.cells #[.slice (some a1) t.size cap1] 22)).heap.size = N1 + 6 := by simp; omega
  gi_wp2_with (refine ⟨trivial, ?_⟩; gi_at_call 41; refine (callsIn_wide.2 (back_mk _ _ _ _)).mono ?_; rintro e w2 ⟨rfl, rfl⟩)
  clear e0 e1 e2 hmk hmi
  generalize ((((V.alloc (.cells (ndsL (fun _ => zN) t.size).toArray 29)).alloc (.cells #[.slice (some ⟨N1 + 1, 0, none⟩) t.size t.size] 22)).alloc (.cells (ints (fun _ => 0) t.size).toArray 3)).alloc (.cells #[.slice (some ⟨N1 + 1 + 1 + 1, 0, none⟩) t.size t.size] 50)).alloc (.cells #[.slice (some a1) t.size cap1] 22) = V6 at *
  clear k1 k2 k3 kF hrd hBV hszV
  have hw : w.heap.size + 2 ≤ N1 := by omega
  have hseq := back_seq V6.heap.size (N1 + 1 + 1 + 1 + 1 + 1) (fun k => k = N1 + 1 + 1 + 1 + 1 + 1 ∨ k = a1.block) a1 t.size cap1 (nodes t) V6 (by omega) RX KX rfl (.inl rfl) (.inr rfl)
  refine wpIn_rangeFunc_steps (n := 5) rfl (by decide) (gf := 57) (lb := #[.pointer (some ⟨N1 + 1 + 1 + 1 + 1 + 1, 0, none⟩)]) rfl trivial (enters_of Try.func57 (by kernel_rfl) rfl) (fun k => k = N1 + 1 + 1 + 1 + 1 + 1 ∨ k = a1.block) (fun k hk => by rw [hsz6]; omega) hseq (fun _ => rfl)
    (fun i W => ∃ T g, MI w t N1 b1 cap1 a1 i W T g) ?stable ⟨_, _, K0⟩
    (fun i a' W => ∃ nb, N1 + 8 ≤ nb ∧ Cl W nb 29 (ndL (nodes t (t.size - 1 - i))) ∧ Fr17 w.heap.size (w.heap.size + 1) N1 (N1 + 1 + 1) (N1 + 1 + 1 + 1 + 1) nb (t.size - 1 - i) a'.tmps ∧ a'.defers = []) ?axst ?assign ?body ?done
  case stable =>
    rintro i A B ⟨T, g, h⟩ ht
    rw [hsz6] at ht
    exact ⟨T, g, h.turn hbb1 hw ht⟩
  case axst =>
    rintro i a' A B ⟨nb, h1, h2, h3⟩ ht
    rw [hsz6] at ht
    refine ⟨nb, h1, ?_, h3⟩
    unfold Cl
    rw [ht.block nb h2.lt (.inr (by omega))]
    exact h2
  case assign =>
    rintro i W K hi ⟨T, g, hM⟩ hsz hK
    rw [hsz6] at hsz
    have HK : Hid (∀ tm, Fr17 w.heap.size (w.heap.size + 1) N1 (N1 + 1 + 1) (N1 + 1 + 1 + 1 + 1) W.heap.size (t.size - 1 - i) tm → K ⟨tm, []⟩ (W.alloc (.cells (ndL (nodes t (t.size - 1 - i))).toArray 29))) := fun tm h => hK _ _ ⟨by simp, fun k hk => Below.heap_alloc _ _ _ (by rw [hsz6] at hk; rcases hk with (rfl | rfl) | ⟨h1, h2⟩ <;> omega)⟩ ⟨T, g, hM.inv, by simp; omega, hM.k2.alloc _, hM.k3.alloc _, hM.kF.alloc _, hM.kT.alloc _, hM.k4.alloc _, hM.kB.alloc _, hM.k5.alloc _, hM.bel.alloc hM.bel.size _⟩ ⟨W.heap.size, by omega, Cl.new _ _ _, h, rfl⟩
    unfold ndL at HK
    clear hK hM RX KX K0 hseq
    generalize t.size - 1 - i = p at *
    unfold ndV
    gi_wp2
    exact HK.out _ (Fr17.of _ rfl)
  case body =>
    rintro i a' W hi ⟨T, g, hM⟩ ⟨nb, hnb, hN, ⟨uu, hfr⟩, hdf⟩ hsz
    obtain ⟨tm, dfs⟩ := a'
    dsimp only at hfr hdf
    subst hfr hdf
    obtain ⟨p, hp⟩ : ∃ p, p = t.size - 1 - i := ⟨_, rfl⟩
    rw [← hp] at hN ⊢
    have hl : p < t.subs.length := by rw [Tre.subs_length]; omega
    obtain ⟨u, hu⟩ : ∃ u, t.subs[p]? = some u := ⟨_, List.getElem?_eq_getElem hl⟩
    have Nx : Nxt t i p u := ⟨hi, hp, hu⟩
    have hpt := Nx.lt.1
    have hgp := Nx.at_ hM.inv
    obtain ⟨hpl, hup, _⟩ := Nx.place
    have hfp := stF_at hu
    have pu := u.size_pos
    obtain ⟨_, hbl, _⟩ := bg_at t 0 p u hu
    have hnd : nodes t p = u.nd p := nodes_get hu
    rw [hnd] at hN
    have bb1 : 0 ≤ g p ∧ g p ≤ 2048 := by rw [hgp]; omega
    have b2 : 0 ≤ stF t p ∧ stF t p ≤ 2048 := by rw [hfp]; omega
    have b3 : g p + p - stF t p = ((bg t 0 p + u.size - 1 : Nat) : Int) := by rw [hgp, hfp]; omega
    have hne : (N1 ≠ N1 + 1 ∧ N1 ≠ N1 + 1 + 1 + 1 ∧ N1 ≠ nb) ∧ (N1 + 1 + 1 ≠ N1 + 1 ∧ N1 + 1 + 1 ≠ N1 + 1 + 1 + 1 ∧ N1 + 1 + 1 ≠ nb) ∧ (N1 + 1 + 1 + 1 + 1 ≠ N1 + 1 ∧ N1 + 1 + 1 + 1 + 1 ≠ N1 + 1 + 1 + 1 ∧ N1 + 1 + 1 + 1 + 1 ≠ nb) ∧ (b1 ≠ N1 + 1 ∧ b1 ≠ N1 + 1 + 1 + 1 ∧ b1 ≠ nb) ∧ N1 + 1 + 1 + 1 ≠ N1 + 1 ∧ N1 + 1 + 1 + 1 ≠ nb ∧ N1 + 1 ≠ nb := by omega
    have HN : ∀ T' g', Inv t (i + 1) T' g' → Hid (∀ W', But3 (N1 + 1) (N1 + 1 + 1 + 1) nb W W' → Cl W' (N1 + 1) 29 (ndsL T' t.size) → Cl W' (N1 + 1 + 1 + 1) 3 (ints g' t.size) → KeepT V6.heap.size (fun k => k = N1 + 1 + 1 + 1 + 1 + 1 ∨ k = a1.block) W W' ∧ ∃ T g, MI w t N1 b1 cap1 a1 (i + 1) W' T g) := fun T' g' hI W' h1 h2 h3 => by
      refine ⟨⟨h1.size, fun k hk => ?_⟩, T', g', hM.next hbb1 hw hnb h1 h2 h3 hI⟩
      rw [hsz6] at hk
      have hx : k ≠ N1 + 1 ∧ k ≠ N1 + 1 + 1 + 1 ∧ k ≠ nb ∧ k < W.heap.size := by
        rcases hk with (rfl | rfl) | ⟨q1, q2⟩ <;> (refine ⟨?_, ?_, ?_, ?_⟩ <;> omega)
      exact h1.block k hx.2.2.2 hx.1 hx.2.1 hx.2.2.1
    rw [show (5 : Nat) - 1 - 1 = 3 from rfl]
    cases u with
    | leaf n =>
      obtain ⟨kk, c0, c1, c2, c3, a, b, l, m, z⟩ := n
      simp only [Tre.nd] at hN
      have hI := Nx.leaf hM.inv
      by_cases h6 : kk = 6
      · subst h6
        exact mr_hat _ _ N1 _ _ nb p _ b1 _ _ _ uu c0 c1 c2 c3 a b l m z T g _ hM.k3 hM.k4 hM.k5 hM.kF hM.kB hM.kT hN hne hpt sx bb1 b2 b3 hpl (HN _ _ hI)
      · by_cases h7 : kk = 7
        · subst h7
          exact mr_dol _ _ N1 _ _ nb p _ b1 _ _ _ uu c0 c1 c2 c3 a b l m z T g _ hM.k3 hM.k4 hM.k5 hM.kF hM.kB hM.kT hN hne hpt sx bb1 b2 b3 hpl (HN _ _ hI)
        · have hk := lf_kind (subs_ok t p _ ox hu)
          dsimp only at hk
          have hsw : swp ⟨kk, c0, c1, c2, c3, a, b, l, m, z⟩ = ⟨kk, c0, c1, c2, c3, a, b, l, m, z⟩ := by simp [swp, h6, h7]
          rw [hsw] at hI
          exact mr_leaf _ _ N1 _ _ nb p _ b1 _ _ _ uu ⟨kk, c0, c1, c2, c3, a, b, l, m, z⟩ T g _ hM.k3 hM.k4 hM.k5 hM.kF hM.kB hM.kT hN hne hpt sx bb1 b2 b3 hpl (by dsimp only; omega) (HN _ _ hI)
    | rep x l m z =>
      have hI := Nx.rep hM.inv
      obtain ⟨hs, hs2⟩ := subs_rep hu
      have px2 := x.size_pos
      have e : (Tre.rep x l m z).nd (p : Int) = ⟨5, 0, 0, 0, 0, ((p - 1 : Nat) : Int), 0, l, m, z⟩ := by simp only [Tre.nd]; congr 1; omega
      rw [e] at hN
      exact mr_rep _ _ N1 _ _ nb p _ b1 _ _ _ uu (p - 1) 0 0 0 0 0 l m z T g _ hM.k3 hM.k4 hM.k5 hM.kF hM.kB hM.kT hN hne hpt sx bb1 b2 b3 hpl (by omega) (HN _ _ hI)
    | two k x y =>
      obtain ⟨hs, hs2, hs3⟩ := subs_two hu
      have px2 := x.size_pos
      have py2 := y.size_pos
      have e : (Tre.two k x y).nd (p : Int) = ⟨k, 0, 0, 0, 0, ((p - 1 - y.size : Nat) : Int), ((p - 1 : Nat) : Int), 0, 0, false⟩ := by simp only [Tre.nd]; congr 1 <;> omega
      rw [e] at hN
      have f1 := stF_at hs2
      have f2 := stF_at hs3
      have z1 := (subs_sub t _ _ hs2).1
      have z2 := (subs_sub t _ _ hs3).1
      have hk : k = 3 ∨ k = 4 := by
        have := subs_ok t p _ ox hu
        simp only [Tre.ok, Bool.and_eq_true, Bool.or_eq_true, beq_iff_eq] at this
        exact this.1.1
      rcases hk with rfl | rfl
      · have hI := Nx.two hM.inv (p - 1) (p - 1 - y.size) (g p + y.size) (.inl ⟨rfl, rfl, rfl, rfl⟩)
        exact mr_cat _ _ N1 _ _ nb p _ b1 _ _ _ uu (p - 1 - y.size) (p - 1) 0 0 0 0 0 0 (g p + y.size) false T g _ hM.k3 hM.k4 hM.k5 hM.kF hM.kB hM.kT hN hne hpt sx bb1 b2 b3 hpl (by omega) (by omega) (by rw [f1]; omega) (by rw [f1]; omega) (HN _ _ hI)
      · have hI := Nx.two hM.inv (p - 1 - y.size) (p - 1) (g p + x.size) (.inr ⟨rfl, rfl, rfl, rfl⟩)
        exact mr_alt _ _ N1 _ _ nb p _ b1 _ _ _ uu (p - 1 - y.size) (p - 1) 0 0 0 0 0 0 (g p + x.size) false T g _ hM.k3 hM.k4 hM.k5 hM.kF hM.kB hM.kT hN hne hpt sx bb1 b2 b3 hpl (by omega) (by omega) (by rw [f2]; omega) (by rw [f2]; omega) (HN _ _ hI)
  case done =>
    rintro W ⟨T, g, hM⟩ hD
    have dT := hM.k4.cell 0 rfl
    obtain ⟨dr, dz⟩ := hM.k2.one
    have kR := hM.k2.set 0 (.slice (some ⟨N1 + 1, 0, none⟩) t.size t.size)
    have dd := kR.cell 0 rfl
    have hT := hM.inv.done
    have kT := hM.kT
    rw [ndsL_congr hT] at kT
    have hD2 : (W.setCell ⟨w.heap.size + 1, 0, none⟩ (.slice (some ⟨N1 + 1, 0, none⟩) t.size t.size)).heap[V6.heap.size]? = some (.deferred (some [])) := (set_heap _ _ _ _ (show V6.heap.size ≠ w.heap.size + 1 by omega)).trans hD
    have kT2 := kT.other (k := w.heap.size + 1) (by omega) 0 (.slice (some ⟨N1 + 1, 0, none⟩) t.size t.size)
    have hbel := hM.bel.setCell (p := ⟨w.heap.size + 1, 0, none⟩) (by simp) (.slice (some ⟨N1 + 1, 0, none⟩) t.size t.size)
    have hR : RetT w t.size (nodes (mir t)) (.returned (.agg #[.slice (some ⟨N1 + 1, 0, none⟩) t.size t.size])) ((W.setCell ⟨w.heap.size + 1, 0, none⟩ (.slice (some ⟨N1 + 1, 0, none⟩) t.size t.size)).putObj V6.heap.size (.deferred none)) := by
      refine ⟨_, _, rfl, own_cl (b := N1 + 1) ?_ (by omega) sx, hbel.trans (belowK_b (w := w) (Nat.le_refl _) _ _ _ _ (by omega) hD2 rfl rfl)⟩
      unfold Cl
      rw [World.putObj_heap_other (by omega)]
      exact kT2
    have dd2 : ((W.setCell ⟨w.heap.size + 1, 0, none⟩ (.slice (some ⟨N1 + 1, 0, none⟩) t.size t.size)).putObj V6.heap.size (.deferred none)).cell? ⟨w.heap.size + 1, 0, none⟩ = some (.slice (some ⟨N1 + 1, 0, none⟩) t.size t.size) := by
      have : ((W.setCell ⟨w.heap.size + 1, 0, none⟩ (.slice (some ⟨N1 + 1, 0, none⟩) t.size t.size)).putObj V6.heap.size (.deferred none)).heap[w.heap.size + 1]? = (W.setCell ⟨w.heap.size + 1, 0, none⟩ (.slice (some ⟨N1 + 1, 0, none⟩) t.size t.size)).heap[w.heap.size + 1]? := World.putObj_heap_other (by omega)
      simp only [World.cell?, this] at dd ⊢
      exact dd
    have HR : Hid _ := hR
    clear hR kT2 hbel hT kT
    gi_wp2
    refine ⟨by simp, .inl ⟨_, _, rfl, run_takeDeferred hD2, ?_⟩⟩
    exact ⟨_, by simp [results, Try.results17, go_sem, dd2], HR.out⟩
end Go.Proofs.Ytgedhjflminlbaa
