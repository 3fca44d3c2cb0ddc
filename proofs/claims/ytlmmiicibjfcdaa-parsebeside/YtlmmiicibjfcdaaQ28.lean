/- Trees as the reference takes them: May, Check. Trees joined by the reference: the walk. -/
import Derived.Deep.CutBlock
import Derived.Test.YtlmmiicibjfcdaaQ27
import Derived.Test.YtlmmiicibjfcdaaQ01
import Derived.Deep.RegionHeld3
import Derived.Deep.AppendLies
import Derived.Laws.AppendOwnNone
namespace Go.Proofs.Ytlmmiicibjfcdaa.T
open Go.RowKit
def RetBo (w : World) (b : Bool) (e : Ending) (w' : World) : Prop := e = .returned (.bool b) ∧ Below w.heap.size w w'
/-- What Check answers. -/
def chkE (F : Nat → Nd) (n : Nat) : Int := match treeOf F n with
  | none => 50
  | some t => if anc t (true, true) = true then 0 else 51
set_option maxHeartbeats 400000 in
theorem may_any (a : Option Addr) (n c : Nat) (F : Nat → Nd) (w : World) (ha : RdN w a n F) (hn : (n : Int) ≤ 9223372036854775807) : Calls Try.prog 36 #[.agg #[.slice a n c]] w (RetBo w (treeOf F n).isSome) := by
  have hW0 := below1 w (.cells #[.slice a n c] 28)
  have HM := sizes_any a n c F _ (ha.below hW0) hn
  clear ha
  have HX : Hid (∀ w3 : World, Below (w.heap.size + 1) (w.alloc (.cells #[.slice a n c] 28)) w3 → Below w.heap.size w w3) := fun w3 h => hW0.trans (h.mono (by omega))
  go_enter Try.func36, Try.ntmps36
  go_wp2_with (go_at_call 61; refine HM.mono ?_; rintro e w3 ⟨⟨v, rfl, hv⟩, hb3⟩; clear hv)
  go_ret
  exact ⟨rfl, HX.out _ (by simpa using hb3)⟩
end Go.Proofs.Ytlmmiicibjfcdaa.T
namespace Go.Proofs.Ytlmmiicibjfcdaa.T
open Go.RowKit
theorem set_heap (A : World) (a : Addr) (v : Value) (k : Nat) (h : k ≠ a.block) : (A.setCell a v).heap[k]? = A.heap[k]? := Below.heap_setCell _ _ _ _ h
def zN : Nd := ⟨0, 0, 0, 0, 0, 0, 0, 0, 0, false⟩
/-- One list of nodes behind another. -/
def catF (n : Nat) (F G : Nat → Nd) : Nat → Nd := fun i => if i < n then F i else G (i - n)
theorem ndsL_cat (n : Nat) (F G : Nat → Nd) : ∀ m, ndsL (catF n F G) (n + m) = ndsL F n ++ ndsL G m
  | 0 => by
    rw [ndsL, List.append_nil]
    exact ndsL_congr fun i hi => by simp only [Nat.add_zero] at hi; simp [catF, hi]
  | m + 1 => by
    rw [← Nat.add_assoc, ndsL, ndsL_cat n F G m, ndsL, List.append_assoc]
    congr 2
    simp only [catF]
    rw [if_neg (by omega), Nat.add_sub_cancel_left]
theorem ownsRow_base {W : World} {base base' e size k : Nat} {v : Value} {xs : List Value} (h : W.ownsRow base e size v k xs) (hb : base' ≤ base) : W.ownsRow base' e size v k xs :=
  ⟨h.1, h.2.imp id fun ⟨g, cap, cur, hv, hg, r⟩ => ⟨g, cap, cur, hv, Nat.le_trans hb hg, r⟩⟩
theorem OwN.rd {w : World} {B : Nat} {ao : Option Addr} {n cap : Nat} {F : Nat → Nd} (h : OwN w B ao n cap F) : RdN w ao n F := by
  intro hn
  obtain ⟨g, e, hl, _, hc, _⟩ := h.cells hn
  refine ⟨g, 0, e, hl, fun i hi => ?_⟩
  simp only [Nat.zero_add]
  exact ⟨hc i 0 _ hi (by omega) rfl, hc i 1 _ hi (by omega) rfl, hc i 2 _ hi (by omega) rfl, hc i 3 _ hi (by omega) rfl, hc i 4 _ hi (by omega) rfl, hc i 5 _ hi (by omega) rfl, hc i 6 _ hi (by omega) rfl, hc i 7 _ hi (by omega) rfl, hc i 8 _ hi (by omega) rfl, hc i 9 _ hi (by omega) rfl⟩
theorem b_node : (Try.prog.info? 44).map (fun i => (i.zero, i.size, i.bytes)) = some (some (.agg #[.int .i64 0, .int .u64 0, .int .u64 0, .int .u64 0, .int .u64 0, .int .i64 0, .int .i64 0, .int .i64 0, .int .i64 0, .bool false]), 10, 80) := by kernel_rfl
theorem ownsRow_cap {W : World} {base e size n cap : Nat} {ao : Option Addr} {xs : List Value} (h : W.ownsRow base e size (.slice ao n cap) n xs) : n ≤ cap := by
  rcases h.2 with ⟨h, h0⟩ | ⟨g, cap', cur, hv, _, _, hc, _⟩
  · omega
  · cases hv; exact hc
/-- One node in a new block. -/
theorem own_one (w : World) (B : Nat) (hB : B ≤ w.heap.size) (x : Nd) (F : Nat → Nd) (hF : F 0 = x) : OwN (w.alloc (.cells (ndL x).toArray 44)) B (some ⟨w.heap.size, 0, none⟩) 1 1 F := by
  have := World.ownsRow_lit (e := 44) (size := 10) w (ndL x).toArray 1 hB (by decide) rfl
  unfold OwN
  have e : ndsL F 1 = (ndL x).toArray.toList := by simp [ndsL, hF]
  rw [e]
  exact this
theorem nodes_emp : nodes emp 0 = ⟨1, 0, 0, 0, 0, 0, 0, 0, 0, false⟩ := rfl
theorem RdN.put {w : World} {ao : Option Addr} {n b : Nat} {t : TypeId} {F : Nat → Nd} {x : Option Addr} {l c : Nat} (h : RdN w ao n F) (k : Cl w b t [.slice x l c]) (v : Value) : RdN (w.setCell ⟨b, 0, none⟩ v) ao n F := by
  intro hn
  obtain ⟨bb, off, e, hlt, hc⟩ := h hn
  have hne : bb ≠ b := by
    rintro rfl
    have h0 := (hc 0 hn).1
    rw [cell_of_row w bb _ _ t (0, 0) k] at h0
    simp only [Nat.zero_mul, Nat.add_zero, List.getElem?_toArray] at h0
    cases off with
    | zero => simp at h0
    | succ o => simp at h0
  refine ⟨bb, off, e, by simpa using hlt, fun i hi => ?_⟩
  have hq : ∀ j, (w.setCell ⟨b, 0, none⟩ v).cell? ⟨bb, j, none⟩ = w.cell? ⟨bb, j, none⟩ := fun j => by
    simp [World.cell?, Below.heap_setCell w ⟨b, 0, none⟩ v bb hne]
  simpa only [hq] using hc i hi
theorem nodes_bound {t : Tre} (ho : t.ok = true) (i : Nat) (hi : i < t.size) : (-4096 ≤ (nodes t i).a ∧ (nodes t i).a ≤ 4096 ∨ 2048 < t.size) ∧ (-4096 ≤ (nodes t i).b ∧ (nodes t i).b ≤ 4096 ∨ 2048 < t.size) := by
  by_cases hs : 2048 < t.size
  · exact ⟨.inr hs, .inr hs⟩
  have hl : i < t.subs.length := by rw [Tre.subs_length]; exact hi
  have e := List.getElem?_eq_getElem hl
  rw [nodes_get e]
  have hok := subs_ok t i _ ho e
  obtain ⟨h1, _, _⟩ := subs_sub t i _ e
  generalize t.subs[i] = u at *
  cases u with
  | leaf n =>
    simp only [Tre.ok, Tre.lf, Bool.or_eq_true, Bool.and_eq_true] at hok
    simp only [Tre.nd]
    rcases hok with ⟨_, h⟩ | ⟨_, h⟩ <;> · rw [Nd.eq_iff] at h; rw [h]; simp
  | two k x y =>
    simp only [Tre.nd, Tre.size] at *
    omega
  | rep x l m z =>
    simp only [Tre.nd, Tre.size] at *
    omega
theorem nodes_bound' {t : Tre} (ho : t.ok = true) (hs : t.size ≤ 2048) : ∀ i, i < t.size → (-4096 ≤ (nodes t i).a ∧ (nodes t i).a ≤ 4096) ∧ (-4096 ≤ (nodes t i).b ∧ (nodes t i).b ≤ 4096) := fun i hi => by
  obtain ⟨h1, h2⟩ := nodes_bound ho i hi
  exact ⟨h1.resolve_right (by omega), h2.resolve_right (by omega)⟩
/-- Two lists of nodes, the second so many places further, and the node behind them. -/
theorem two_lists (k : Int) (x y : Tre) (hy : y.ok = true) : (ndsL (nodes x) x.size ++ ndsL (fun i => sh x.size (nodes y i)) y.size) ++ ndL ⟨k, 0, 0, 0, 0, x.size - 1, (x.size + y.size : Nat) - 1, 0, 0, false⟩ = ndsL (nodes (.two k x y)) (x.size + y.size + 1) := by
  rw [← ndsL_cat, ndsL]
  congr 1
  · refine ndsL_congr fun i hi => ?_
    rw [nodes_two k x y i hy (by omega)]
    unfold catF
    by_cases h : i < x.size
    · rw [if_pos h, if_pos h]
    · rw [if_neg h, if_neg h, if_pos hi]
  · rw [nodes_two k x y _ hy (by omega), if_neg (by omega), if_neg (by omega)]
    simp
theorem new_cells (w : World) (x : Nd) (w' : World) (hb : Below (w.heap.size + 1) (w.alloc (.cells (ndL x).toArray 44)) w') : ∀ j u, (ndL x)[j]? = some u → w'.cell? (Addr.add ⟨w.heap.size, 0, none⟩ j) = some u := by
  intro j u hj
  have kn := Cl.new w 44 (ndL x)
  have := kn.cell j hj
  rw [← hb.cell (p := ⟨w.heap.size, j, none⟩) (by simp)] at this
  by_cases h0 : j = 0
  · subst h0; simpa [Addr.add] using this
  · simpa [Addr.add, h0] using this
set_option maxHeartbeats 400000 in
theorem rempty_any (w : World) : Calls Try.prog 39 #[] w (RetT w 1 (nodes emp)) := by
  have ho := own_one (w.alloc (.cells #[.slice (some ⟨w.heap.size + 1, 0, none⟩) 1 1] 28)) w.heap.size (by simp) _ (nodes emp) nodes_emp
  simp only [World.size_alloc] at ho
  unfold ndL at ho
  dsimp only at ho
  have hb := below2 w (.cells #[.slice (some ⟨w.heap.size + 1, 0, none⟩) 1 1] 28) (.cells #[.int .i64 1, .int .u64 0, .int .u64 0, .int .u64 0, .int .u64 0, .int .i64 0, .int .i64 0, .int .i64 0, .int .i64 0, .bool false] 44)
  go_enter Try.func39, Try.ntmps39
  go_wp2
  exact bodyPost_ret (by simp [results, Try.results39, go_sem]) rfl ⟨_, _, rfl, ho, hb⟩
/-- What may answers. -/
def RetMy (w : World) (a : Option Addr) (t : Tre) (e : Ending) (w' : World) : Prop := ∃ ta cap, e = .returned (.agg #[.slice (some ta) t.size cap]) ∧ RdN w' (some ta) t.size (nodes t) ∧ t.size ≤ cap ∧ (some ta = a ∨ t.size = 1) ∧ Below w.heap.size w w'
set_option maxHeartbeats 1000000 in
theorem rmay_any (a : Option Addr) (n c : Nat) (F : Nat → Nd) (w : World) (ha : RdN w a n F) (hn : (n : Int) ≤ 9223372036854775807) (hca : n ≤ c) : Calls Try.prog 41 #[.agg #[.slice a n c]] w (RetMy w a (snd F n)) := by
  have hW0 := below2 w (.cells #[.slice a n c] 28) (.cells #[.slice none 0 0] 28)
  have HM := may_any a n c F _ (ha.below hW0) hn
  have ka : Cl ((w.alloc (.cells #[.slice a n c] 28)).alloc (.cells #[.slice none 0 0] 28)) w.heap.size 28 [.slice a n c] := (Cl.new w 28 [.slice a n c]).alloc _
  have kr : Cl ((w.alloc (.cells #[.slice a n c] 28)).alloc (.cells #[.slice none 0 0] 28)) (w.heap.size + 1) 28 [.slice none 0 0] := by
    have := Cl.new (w.alloc (.cells #[.slice a n c] 28)) 28 [.slice none 0 0]
    simpa only [World.size_alloc] using this
  have HE : Hid (∀ W, Calls Try.prog 39 #[] W (RetT W 1 (nodes emp))) := fun W => rempty_any W
  cases hA : treeOf F n with
  | none =>
    rw [hA] at HM
    have hs : snd F n = emp := by simp [snd, hA]
    rw [hs]
    go_enter Try.func41, Try.ntmps41
    go_wp2_with (first | (go_at_call 36; refine HM.mono ?_; rintro e w1 ⟨rfl, hb1⟩; have kr1 := kr.below hb1) | (go_at_call 39; refine (HE.out _).mono ?_; rintro e w2 ⟨a2, c2, rfl, o2, b2⟩; have kr2 := kr1.below b2; obtain ⟨d1, d2⟩ := kr2.one; have dd := (kr2.set 0 (.slice a2 1 c2)).cell 0 rfl; have r2 := o2.rd; have cc2 := ownsRow_cap o2; obtain ⟨g, rfl, hgl, hgB, _⟩ := o2.cells (by decide)))
    have hq : RetMy w a emp (.returned (.agg #[.slice (some ⟨g, 0, none⟩) 1 c2])) (w2.setCell ⟨w.heap.size + 1, 0, none⟩ (.slice (some ⟨g, 0, none⟩) 1 c2)) := ⟨_, c2, rfl, r2.put kr2 _, cc2, .inr rfl, ((hW0.trans (hb1.mono (by simp; omega))).trans (b2.mono (by have := hb1.size; simp at this; omega))).setCell (p := ⟨w.heap.size + 1, 0, none⟩) (by simp) _⟩
    exact bodyPost_ret (by simp [results, Try.results41, go_sem, dd]) rfl hq
  | some t =>
    rw [hA] at HM
    obtain ⟨rfl, ho, hs, hF⟩ := treeOf_some hA
    have hs2 : snd F t.size = t := by simp [snd, hA]
    rw [hs2]
    have px := t.size_pos
    obtain ⟨bb, off, rfl, _, _⟩ := ha px
    have hr := (ha.below hW0).congr hF
    go_enter Try.func41, Try.ntmps41
    go_wp2_with (go_at_call 36; refine HM.mono ?_; rintro e w1 ⟨rfl, hb1⟩; have kr1 := kr.below hb1; have d0 := (ka.below hb1).cell 0 rfl; obtain ⟨d1, d2⟩ := kr1.one; have dd := (kr1.set 0 (.slice (some ⟨bb, off, none⟩) t.size c)).cell 0 rfl)
    exact bodyPost_ret (by simp [results, Try.results41, go_sem, dd]) rfl ⟨_, c, rfl, (hr.below hb1).put kr1 _, hca, .inl rfl, (hW0.trans (hb1.mono (by simp; omega))).setCell (p := ⟨w.heap.size + 1, 0, none⟩) (by simp) _⟩
theorem row_type {W : World} {B n cap X : Nat} {ao : Option Addr} {xs : List Value} {vs : List Value} (h : W.ownsRow B 44 10 (.slice ao n cap) n xs) (k : Cl W X 28 vs) : (Value.slice ao n cap).ownBlock ≠ some X := by
  intro e
  rcases h.2 with ⟨h', _⟩ | ⟨g, cap', cur, e', _, hc, _⟩
  · rw [h'] at e; cases e
  · rw [e'] at e
    have : g = X := by simpa [Value.ownBlock] using e
    subst this
    rw [k] at hc
    cases hc
set_option maxRecDepth 10000 in
set_option maxHeartbeats 2000000 in
theorem placed_any (B : Nat) (lo : Option Addr) (k lc : Nat) (Fl : Nat → Nd) (ta : Addr) (tn tc : Nat) (Ft : Nat → Nd) (w : World) (hl : w.ownsRow B 44 10 (.slice lo k lc) k (ndsL Fl k)) (hBw : B ≤ w.heap.size) (ht : RdN w (some ta) tn Ft) (hT : ta.block < B ∨ tn = 1) (hF : ∀ i, i < tn → (-4096 ≤ (Ft i).a ∧ (Ft i).a ≤ 4096) ∧ (-4096 ≤ (Ft i).b ∧ (Ft i).b ≤ 4096)) (hk : k ≤ 2048) (htn : tn ≤ 2048) :
    Calls Try.prog 40 #[.slice lo k lc, .agg #[.slice (some ta) tn tc]] w fun e w' => ∃ ao cap, e = .returned (.slice ao (k + tn) cap) ∧ w'.ownsRow B 44 10 (.slice ao (k + tn) cap) (k + tn) (ndsL (catF k Fl (fun i => sh k (Ft i))) (k + tn)) ∧ Below B w w' := by
  obtain ⟨i0, hi, hz0, hz1, hz2⟩ := info_parts b_node
  have hW0 := below1 w (.cells #[.slice (some ta) tn tc] 28)
  have k0 := Cl.new w 28 [.slice (some ta) tn tc]
  have ht0 := ht.below hW0
  have hl0 := ownsRow_below hl hW0
  have hb0 : Below B w (w.alloc (.cells #[.slice (some ta) tn tc] 28)) := (Below.refl _ _).alloc hBw _
  have hcat0 : ndsL (catF k Fl (fun i => sh k (Ft i))) (k + 0) = ndsL Fl k := by rw [ndsL_cat]; simp [ndsL]
  clear ht hl
  go_enter Try.func40, Try.ntmps40
  go_wp2
  go_loopw [0, 6] (fun v i wr => ∃ j : Nat, j ≤ tn ∧ i = .int .i64 (j : Nat) ∧ wr.ownsRow B 44 10 v (k + j) (ndsL (catF k Fl (fun i => sh k (Ft i))) (k + j)) ∧ (j < tn → RdN wr (some ta) tn Ft) ∧ Cl wr w.heap.size 28 [.slice (some ta) tn tc] ∧ Below B w wr) (fun _ i _ => tn - (intOf i).toNat)
  case atStart => exact ⟨0, Nat.zero_le _, rfl, by rw [hcat0]; exact hl0, fun _ => ht0, k0, hb0⟩
  case round =>
    obtain ⟨j, hj, rfl, hrow, hrd, kb, hb⟩ := hrel
    clear hl0 ht0 k0 hb0 hcat0 hW0
    obtain ⟨av, cv, rfl⟩ := ownsRow_slice hrow
    have d0 := kb.cell 0 rfl
    by_cases hlt : j < tn
    · have hji : (j : Int) < (tn : Int) := by omega
      have hr := hrd hlt
      obtain ⟨bb, off, ea, hbb, hc⟩ := hr (by omega)
      obtain rfl := Option.some.inj ea
      obtain ⟨c0, c1, c2, c3, c4, c5, c6, c7, c8, c9⟩ := hc j hlt
      obtain ⟨⟨a1, a2⟩, b1, b2⟩ := hF j hlt
      have HG : Hid (∀ (o o' : Obj) v' w2, w2.ownsRow B 44 10 v' (k + j + 1) (ndsL (catF k Fl (fun i => sh k (Ft i))) (k + j) ++ ndL (sh k (Ft j))) → ((wr.alloc o).alloc o').grownBy w2 (Value.slice av (k + j) cv).ownBlock → ∃ j' : Nat, j' ≤ tn ∧ Value.int .i64 ((j : Int) + 1) = .int .i64 (j' : Nat) ∧ w2.ownsRow B 44 10 v' (k + j') (ndsL (catF k Fl (fun i => sh k (Ft i))) (k + j')) ∧ (j' < tn → RdN w2 (some ⟨bb, off, none⟩) tn Ft) ∧ Cl w2 w.heap.size 28 [.slice (some ⟨bb, off, none⟩) tn tc] ∧ Below B w w2) := by
        intro o o' v' w2 h1 h2
        have hown := ownsRow_own hrow
        have hB2 : Below B wr w2 := ((below2 wr o o').mono (Nat.le_trans hBw hb.size)).grown h2 (by simp; have := hb.size; omega) hown
        refine ⟨j + 1, hlt, by simp, ?_, fun hj2 => ?_, ?_, hb.trans hB2⟩
        · have e : ndsL (catF k Fl (fun i => sh k (Ft i))) (k + (j + 1)) = ndsL (catF k Fl (fun i => sh k (Ft i))) (k + j) ++ ndL (sh k (Ft j)) := by
            rw [← Nat.add_assoc, ndsL]
            simp [catF, show ¬ k + j < k by omega]
          rw [e]
          exact h1
        · rcases hT with h | h
          · intro hn
            obtain ⟨b', off', e', hb', hc'⟩ := hr hn
            obtain ⟨rfl, rfl⟩ : bb = b' ∧ off = off' := by simpa using e'
            refine ⟨bb, off, rfl, Nat.lt_of_lt_of_le hb' hB2.size, fun q hq => ?_⟩
            have q0 : ∀ i, w2.cell? ⟨bb, i, none⟩ = wr.cell? ⟨bb, i, none⟩ := fun i => hB2.cell (p := ⟨bb, i, none⟩) h
            rw [q0, q0, q0, q0, q0, q0, q0, q0, q0, q0]
            exact hc' q hq
          · omega
        · have hne := row_type hrow kb
          have kb2 := (kb.alloc o).alloc o'
          unfold Cl
          rw [h2.block w.heap.size kb2.lt (fun e => hne e.symm)]
          exact kb2
      have HR : Hid (∀ (o o' : Obj), ((wr.alloc o).alloc o').ownsRow B 44 10 (.slice av (k + j) cv) (k + j) (ndsL (catF k Fl (fun i => sh k (Ft i))) (k + j)) ∧ B ≤ ((wr.alloc o).alloc o').heap.size) := fun o o' => ⟨ownsRow_below hrow (below2 wr o o'), by simp; have := hb.size; omega⟩
      have kX := Cl.new wr 44 (ndL (Ft j))
      have d1 := (kb.alloc (.cells (ndL (Ft j)).toArray 44)).cell 0 rfl
      by_cases k34 : (Ft j).k = 3 ∨ (Ft j).k = 4
      · rcases k34 with e | e
        · generalize Ft j = q at *
          obtain ⟨kk, x0, x1, x2, x3, a, b, l, m, z⟩ := q
          dsimp only at *
          subst e
          have hsh : sh (k : Int) ⟨3, x0, x1, x2, x3, a, b, l, m, z⟩ = ⟨3, x0, x1, x2, x3, (a + k), (b + k), l, m, z⟩ := sh34 (k : Int) (.inl rfl)
          rw [hsh] at HG
          have HN : Hid (∀ j' u, (ndL ⟨3, x0, x1, x2, x3, (a + k), (b + k), l, m, z⟩)[j']? = some u → ((wr.alloc (.cells (ndL ⟨3, x0, x1, x2, x3, (a + k), (b + k), l, m, z⟩).toArray 44)).alloc (.cells (ndL ⟨3, x0, x1, x2, x3, (a + k), (b + k), l, m, z⟩).toArray 44)).cell? (Addr.add ⟨wr.heap.size + 1, 0, none⟩ j') = some u) := by
            have := new_cells (wr.alloc (.cells (ndL ⟨3, x0, x1, x2, x3, (a + k), (b + k), l, m, z⟩).toArray 44)) ⟨3, x0, x1, x2, x3, (a + k), (b + k), l, m, z⟩ _ (Below.refl _ _)
            simp only [World.size_alloc] at this
            exact this
          clear hsh hF hc hr hrd hrow
          unfold ndL at HN HG kX d1
          dsimp only at HN HG kX d1
          go_wp2_with (at_builtin; refine wpList_append_own _ rfl _ _ 26 rfl B 44 i0 _ 10 80 Try.underlying26 hi hz0 hz1 hz2 rfl (by decide) _ _ _ rfl (HR.out _ _).1 ⟨wr.heap.size + 1, 0, none⟩ 1 1 [.int .i64 3, .int .u64 x0, .int .u64 x1, .int .u64 x2, .int .u64 x3, .int .i64 (a + k), .int .i64 (b + k), .int .i64 l, .int .i64 m, .bool z] rfl rfl HN.out (by simp [Value.oneCell']) (by unfold maxLen; omega) (by omega) (HR.out _ _).2 ?_; intro v' w2 hown hgr hnil'; have HY : Hid _ := HG.out _ _ v' w2 hown hgr; clear hown hgr hnil')
          go_roundw
          case rel => exact HY.out
          case measure => simp [intOf]; omega
        · generalize Ft j = q at *
          obtain ⟨kk, x0, x1, x2, x3, a, b, l, m, z⟩ := q
          dsimp only at *
          subst e
          have hsh : sh (k : Int) ⟨4, x0, x1, x2, x3, a, b, l, m, z⟩ = ⟨4, x0, x1, x2, x3, (a + k), (b + k), l, m, z⟩ := sh34 (k : Int) (.inr rfl)
          rw [hsh] at HG
          have HN : Hid (∀ j' u, (ndL ⟨4, x0, x1, x2, x3, (a + k), (b + k), l, m, z⟩)[j']? = some u → ((wr.alloc (.cells (ndL ⟨4, x0, x1, x2, x3, (a + k), (b + k), l, m, z⟩).toArray 44)).alloc (.cells (ndL ⟨4, x0, x1, x2, x3, (a + k), (b + k), l, m, z⟩).toArray 44)).cell? (Addr.add ⟨wr.heap.size + 1, 0, none⟩ j') = some u) := by
            have := new_cells (wr.alloc (.cells (ndL ⟨4, x0, x1, x2, x3, (a + k), (b + k), l, m, z⟩).toArray 44)) ⟨4, x0, x1, x2, x3, (a + k), (b + k), l, m, z⟩ _ (Below.refl _ _)
            simp only [World.size_alloc] at this
            exact this
          clear hsh hF hc hr hrd hrow
          unfold ndL at HN HG kX d1
          dsimp only at HN HG kX d1
          go_wp2_with (at_builtin; refine wpList_append_own _ rfl _ _ 26 rfl B 44 i0 _ 10 80 Try.underlying26 hi hz0 hz1 hz2 rfl (by decide) _ _ _ rfl (HR.out _ _).1 ⟨wr.heap.size + 1, 0, none⟩ 1 1 [.int .i64 4, .int .u64 x0, .int .u64 x1, .int .u64 x2, .int .u64 x3, .int .i64 (a + k), .int .i64 (b + k), .int .i64 l, .int .i64 m, .bool z] rfl rfl HN.out (by simp [Value.oneCell']) (by unfold maxLen; omega) (by omega) (HR.out _ _).2 ?_; intro v' w2 hown hgr hnil'; have HY : Hid _ := HG.out _ _ v' w2 hown hgr; clear hown hgr hnil')
          go_roundw
          case rel => exact HY.out
          case measure => simp [intOf]; omega
      · by_cases k5 : (Ft j).k = 5
        · have e := k5
          clear k34 k5
          generalize Ft j = q at *
          obtain ⟨kk, x0, x1, x2, x3, a, b, l, m, z⟩ := q
          dsimp only at *
          subst e
          have hsh : sh (k : Int) ⟨5, x0, x1, x2, x3, a, b, l, m, z⟩ = ⟨5, x0, x1, x2, x3, (a + k), b, l, m, z⟩ := sh5 (k : Int) rfl
          rw [hsh] at HG
          have HN : Hid (∀ j' u, (ndL ⟨5, x0, x1, x2, x3, (a + k), b, l, m, z⟩)[j']? = some u → ((wr.alloc (.cells (ndL ⟨5, x0, x1, x2, x3, (a + k), b, l, m, z⟩).toArray 44)).alloc (.cells (ndL ⟨5, x0, x1, x2, x3, (a + k), b, l, m, z⟩).toArray 44)).cell? (Addr.add ⟨wr.heap.size + 1, 0, none⟩ j') = some u) := by
            have := new_cells (wr.alloc (.cells (ndL ⟨5, x0, x1, x2, x3, (a + k), b, l, m, z⟩).toArray 44)) ⟨5, x0, x1, x2, x3, (a + k), b, l, m, z⟩ _ (Below.refl _ _)
            simp only [World.size_alloc] at this
            exact this
          clear hsh hF hc hr hrd hrow
          unfold ndL at HN HG kX d1
          dsimp only at HN HG kX d1
          go_wp2_with (at_builtin; refine wpList_append_own _ rfl _ _ 26 rfl B 44 i0 _ 10 80 Try.underlying26 hi hz0 hz1 hz2 rfl (by decide) _ _ _ rfl (HR.out _ _).1 ⟨wr.heap.size + 1, 0, none⟩ 1 1 [.int .i64 5, .int .u64 x0, .int .u64 x1, .int .u64 x2, .int .u64 x3, .int .i64 (a + k), .int .i64 b, .int .i64 l, .int .i64 m, .bool z] rfl rfl HN.out (by simp [Value.oneCell']) (by unfold maxLen; omega) (by omega) (HR.out _ _).2 ?_; intro v' w2 hown hgr hnil'; have HY : Hid _ := HG.out _ _ v' w2 hown hgr; clear hown hgr hnil')
          go_roundw
          case rel => exact HY.out
          case measure => simp [intOf]; omega
        · have n3 : ((Ft j).k == 3) = false := by simp; omega
          have n4 : ((Ft j).k == 4) = false := by simp; omega
          have n5 : ((Ft j).k == 5) = false := by simp; omega
          have hsh : sh (k : Int) (Ft j) = (Ft j) := sh0 (k : Int) (by omega)
          rw [hsh] at HG
          have HN : Hid (∀ j' u, (ndL (Ft j))[j']? = some u → ((wr.alloc (.cells (ndL (Ft j)).toArray 44)).alloc (.cells (ndL (Ft j)).toArray 44)).cell? (Addr.add ⟨wr.heap.size + 1, 0, none⟩ j') = some u) := by
            have := new_cells (wr.alloc (.cells (ndL (Ft j)).toArray 44)) (Ft j) _ (Below.refl _ _)
            simp only [World.size_alloc] at this
            exact this
          clear hsh hF hc hr hrd hrow
          unfold ndL at HN HG
          unfold ndL at kX d1
          obtain ⟨⟨f0, f1, f2, f3, f4, f5, f6, f7, f8, f9⟩, _⟩ := kX.ten
          generalize Ft j = q at *
          go_wp2_with (at_builtin; refine wpList_append_own _ rfl _ _ 26 rfl B 44 i0 _ 10 80 Try.underlying26 hi hz0 hz1 hz2 rfl (by decide) _ _ _ rfl (HR.out _ _).1 ⟨wr.heap.size + 1, 0, none⟩ 1 1 [.int .i64 q.k, .int .u64 q.c0, .int .u64 q.c1, .int .u64 q.c2, .int .u64 q.c3, .int .i64 q.a, .int .i64 q.b, .int .i64 q.l, .int .i64 q.m, .bool q.z] rfl rfl HN.out (by simp [Value.oneCell']) (by unfold maxLen; omega) (by omega) (HR.out _ _).2 ?_; intro v' w2 hown hgr hnil'; have HY : Hid _ := HG.out _ _ v' w2 hown hgr; clear hown hgr hnil')
          go_roundw
          case rel => exact HY.out
          case measure => simp [intOf]; omega
    · obtain rfl : j = tn := by omega
      have hji : ¬ (j : Int) < (j : Int) := by omega
      have HR : Hid _ := hrow
      clear hrow hrd
      go_wp2
      go_ret
      exact ⟨av, cv, rfl, HR.out, hb⟩

theorem own_other {W : World} {B : Nat} {ao : Option Addr} {n cap : Nat} {F : Nat → Nd} (h : OwN W B ao n cap F) {g : Nat} (hg : ∀ g', (Value.slice ao n cap).ownBlock = some g' → g' ≠ g) (i : Nat) (v : Value) : OwN (W.setCell ⟨g, i, none⟩ v) B ao n cap F := by
  refine ⟨h.1, ?_⟩
  rcases h.2 with h' | ⟨g', cap', cur, e, hB, hc, r⟩
  · exact .inl h'
  · refine .inr ⟨g', cap', cur, e, hB, ?_, r⟩
    rw [set_heap _ _ _ _ (hg g' (by rw [e]; simp [Value.ownBlock]))]
    exact hc
theorem own_below {W W' : World} {B : Nat} {ao : Option Addr} {n cap : Nat} {F : Nat → Nd} (h : OwN W B ao n cap F) (hb : Below W.heap.size W W') : OwN W' B ao n cap F := ownsRow_below h hb
/-- A list of trees, each in a block of its own. -/
structure Sv (LB B : Nat) (L : List Value) (W : World) : Prop where
  list : Cl W LB 28 L
  own : ∀ v ∈ L, ∃ ao n cap F, v = .slice ao n cap ∧ OwN W B ao n cap F ∧ (n : Int) ≤ 9223372036854775806
  rise : L.Pairwise fun v u => ∀ g g', v.ownBlock = some g → u.ownBlock = some g' → g < g'
  lt : ∀ v ∈ L, ∀ g, v.ownBlock = some g → g < LB
theorem Sv.below {LB B : Nat} {L : List Value} {W W' : World} (h : Sv LB B L W) (hb : Below W.heap.size W W') : Sv LB B L W' :=
  ⟨h.list.below hb, fun v hv => let ⟨ao, n, cap, F, e, ho, hn⟩ := h.own v hv; ⟨ao, n, cap, F, e, own_below ho hb, hn⟩, h.rise, h.lt⟩
theorem snd_zero (F : Nat → Nd) : (snd F 0).size = 1 := by simp [snd, treeOf, scanT, emp_size]
theorem near_or {w : World} {a : Option Addr} {n : Nat} {F : Nat → Nd} {ta : Addr} (h : RdN w a n F) (ho : some ta = a ∨ (snd F n).size = 1) : ta.block < w.heap.size ∨ (snd F n).size = 1 := by
  rcases ho with rfl | h1
  · by_cases hn : n = 0
    · subst hn; exact .inr (snd_zero F)
    · obtain ⟨bb, off, e, hb, _⟩ := h (by omega)
      obtain rfl := Option.some.inj e
      exact .inl hb
  · exact .inr h1
theorem cat_zero (Fl F : Nat → Nd) (n : Nat) : ndsL (catF 0 Fl (fun i => sh ((0 : Nat) : Int) (F i))) (0 + n) = ndsL F n := by
  rw [Nat.zero_add]
  exact ndsL_congr fun i _ => by simp [catF, sh_zero]
set_option maxRecDepth 10000 in
set_option maxHeartbeats 4000000 in
theorem rjoin_yes (k : Int) (a b : Option Addr) (n m c d : Nat) (F G : Nat → Nd) (w : World) (hk : k = 3 ∨ k = 4) (ha : RdN w a n F) (hb : RdN w b m G) (hn : (n : Int) ≤ 9223372036854775807) (hm : (m : Int) ≤ 9223372036854775807) (hca : n ≤ c) (hcb : m ≤ d) : Calls Try.prog 20 #[.int .i64 k, .agg #[.slice a n c], .agg #[.slice b m d]] w (RetT w ((snd F n).size + (snd G m).size + 1) (nodes (.two k (snd F n) (snd G m)))) := by
  obtain ⟨ox, sx⟩ := snd_ok F n
  obtain ⟨oy, sy⟩ := snd_ok G m
  have px := (snd F n).size_pos
  have py := (snd G m).size_pos
  have hW0 : Below w.heap.size w (((w.alloc (.cells #[.slice a n c] 28)).alloc (.cells #[.slice b m d] 28)).alloc (.cells #[.slice none 0 0] 28)) := (below2 w _ _).alloc (by simp; omega) _
  have ka : Cl (((w.alloc (.cells #[.slice a n c] 28)).alloc (.cells #[.slice b m d] 28)).alloc (.cells #[.slice none 0 0] 28)) w.heap.size 28 [.slice a n c] := ((Cl.new w 28 [.slice a n c]).alloc _).alloc _
  have kb : Cl (((w.alloc (.cells #[.slice a n c] 28)).alloc (.cells #[.slice b m d] 28)).alloc (.cells #[.slice none 0 0] 28)) (w.heap.size + 1) 28 [.slice b m d] := by
    have := (Cl.new (w.alloc (.cells #[.slice a n c] 28)) 28 [.slice b m d]).alloc (.cells #[.slice none 0 0] 28)
    simpa only [World.size_alloc] using this
  have kr : Cl (((w.alloc (.cells #[.slice a n c] 28)).alloc (.cells #[.slice b m d] 28)).alloc (.cells #[.slice none 0 0] 28)) (w.heap.size + 1 + 1) 28 [.slice none 0 0] := by
    have := Cl.new ((w.alloc (.cells #[.slice a n c] 28)).alloc (.cells #[.slice b m d] 28)) 28 [.slice none 0 0]
    simpa only [World.size_alloc] using this
  have hszW : (((w.alloc (.cells #[.slice a n c] 28)).alloc (.cells #[.slice b m d] 28)).alloc (.cells #[.slice none 0 0] 28)).heap.size = w.heap.size + 3 := by simp
  have HA := rmay_any a n c F _ (ha.below hW0) hn hca
  have HB : Hid (∀ W, RdN W b m G → Calls Try.prog 41 #[.agg #[.slice b m d]] W (RetMy W b (snd G m))) := fun W h => rmay_any b m d G W h hm hcb
  have HRB : Hid (∀ W, Below w.heap.size w W → RdN W b m G) := fun W h => hb.below h
  have hoa := fun ta => near_or (ta := ta) ha
  have hob := fun ta => near_or (ta := ta) hb
  have bx := nodes_bound' ox sx
  have by_ := nodes_bound' oy sy
  have hlist := two_lists k (snd F n) (snd G m) oy
  have d0 := ka.cell 0 rfl
  obtain ⟨i0, hi, hz0, hz1, hz2⟩ := info_parts b_node
  clear ha hb ox oy
  generalize hX : snd F n = x at *
  generalize hY : snd G m = y at *
  clear hX hY
  have HP : Hid (∀ (lo : Option Addr) (kk lc : Nat) (Fl : Nat → Nd) (ta : Addr) (t : Tre) (tc : Nat) (W : World), W.ownsRow (w.heap.size + 3) 44 10 (.slice lo kk lc) kk (ndsL Fl kk) → w.heap.size + 3 ≤ W.heap.size → RdN W (some ta) t.size (nodes t) → (ta.block < w.heap.size ∨ t.size = 1) → (∀ i, i < t.size → (-4096 ≤ (nodes t i).a ∧ (nodes t i).a ≤ 4096) ∧ (-4096 ≤ (nodes t i).b ∧ (nodes t i).b ≤ 4096)) → kk ≤ 2048 → t.size ≤ 2048 → Calls Try.prog 40 #[.slice lo kk lc, .agg #[.slice (some ta) t.size tc]] W fun e w' => ∃ ao cap, e = .returned (.slice ao (kk + t.size) cap) ∧ w'.ownsRow (w.heap.size + 3) 44 10 (.slice ao (kk + t.size) cap) (kk + t.size) (ndsL (catF kk Fl (fun i => sh kk (nodes t i))) (kk + t.size)) ∧ Below (w.heap.size + 3) W w') := fun lo kk lc Fl ta t tc W h1 h2 h3 h4 h5 h6 h7 => placed_any (w.heap.size + 3) lo kk lc Fl ta t.size tc (nodes t) W h1 h2 h3 (h4.imp (fun h => by omega) id) h5 h6 h7
  have HP0 : Hid (∀ (ta : Addr) (tc : Nat) (W : World), w.heap.size + 3 ≤ W.heap.size → RdN W (some ta) x.size (nodes x) → (ta.block < w.heap.size ∨ x.size = 1) → Calls Try.prog 40 #[.slice none 0 0, .agg #[.slice (some ta) x.size tc]] W fun e w' => ∃ ao cap, e = .returned (.slice ao x.size cap) ∧ w'.ownsRow (w.heap.size + 3) 44 10 (.slice ao x.size cap) x.size (ndsL (nodes x) x.size) ∧ Below (w.heap.size + 3) W w') := fun ta tc W h1 h2 h3 => by
    refine (HP.out none 0 0 (fun _ => zN) ta x tc W (World.ownsRow_nil _ _ _ _) h1 h2 h3 bx (by omega) sx).mono ?_
    rintro e w' ⟨ao, cap, rfl, ho, hb⟩
    rw [cat_zero] at ho
    simp only [Nat.zero_add] at ho ⊢
    exact ⟨ao, cap, rfl, ho, hb⟩
  have HP1 : Hid (∀ (lo : Option Addr) (lc : Nat) (ta : Addr) (tc : Nat) (W : World), W.ownsRow (w.heap.size + 3) 44 10 (.slice lo x.size lc) x.size (ndsL (nodes x) x.size) → w.heap.size + 3 ≤ W.heap.size → RdN W (some ta) y.size (nodes y) → (ta.block < w.heap.size ∨ y.size = 1) → Calls Try.prog 40 #[.slice lo x.size lc, .agg #[.slice (some ta) y.size tc]] W fun e w' => ∃ ao cap, e = .returned (.slice ao (x.size + y.size) cap) ∧ w'.ownsRow (w.heap.size + 3) 44 10 (.slice ao (x.size + y.size) cap) (x.size + y.size) (ndsL (nodes x) x.size ++ ndsL (fun i => sh x.size (nodes y i)) y.size) ∧ Below (w.heap.size + 3) W w') := fun lo lc ta tc W h0 h1 h2 h3 => by
    refine (HP.out lo x.size lc (nodes x) ta y tc W h0 h1 h2 h3 by_ sx sy).mono ?_
    rintro e w' ⟨ao, cap, rfl, ho, hb⟩
    rw [ndsL_cat] at ho
    exact ⟨ao, cap, rfl, ho, hb⟩
  clear HP bx by_
  generalize hfx : ndsL (nodes x) x.size = lx at *
  generalize hfy : ndsL (fun i => sh x.size (nodes y i)) y.size = ly at *
  clear hfx hfy
  have hl1 : (x.size : Int) ≤ 2048 := by omega
  have hl2 : (y.size : Int) ≤ 2048 := by omega
  have m1 : Hid True := trivial
  have m2 : Hid True := trivial
  go_enter Try.func20, Try.ntmps20
  rcases hk with rfl | rfl
  · go_upto_region 6 with (first | (go_at_call 41; first | (clear m1; refine HA.mono ?_; rintro e w1 ⟨ta, c1, rfl, r1, _, or1, b1⟩; have s1 := b1.size; rw [hszW] at s1; have hB1 := hW0.trans (b1.mono (by simp; omega)); have kb1 := kb.below b1; have kr1 := kr.below b1; clear d0) | (refine (HB.out _ (HRB.out _ hB2)).mono ?_; rintro e w3 ⟨tb, c3, rfl, r3, _, or3, b3⟩; have s3 := b3.size; have hB3 := hB2.trans (b3.mono hB2.size); have o3 := ownsRow_below o2 b3; have kr3 := kr2.below b3; clear d0)) | (go_at_call 40; first | (clear m2; refine (HP0.out ta c1 w1 s1 r1 (hoa ta or1)).mono ?_; rintro e w2 ⟨ao2, c2, rfl, o2, b2⟩; have s2 := b2.size; have hB2 := hB1.trans (b2.mono (by omega)); have kb2 := kb1.belowB b2 (by omega); have kr2 := kr1.belowB b2 (by omega); have d0 := kb2.cell 0 rfl) | (refine (HP1.out ao2 c2 tb c3 w3 o3 (by omega) r3 (hob tb or3)).mono ?_; rintro e w4 ⟨ao4, c4, rfl, o4, b4⟩; have s4 := b4.size; have hB4 := hB3.trans (b4.mono (by omega)); have kr4 := kr3.belowB b4 (by omega))))
    have o5 := ownsRow_below o4 (below1 w4 (.cells (ndL ⟨3, 0, 0, 0, 0, (x.size : Int) - 1, (x.size : Int) + (y.size : Int) - 1, 0, 0, false⟩).toArray 44))
    have HN : Hid (∀ j' u, (ndL ⟨3, 0, 0, 0, 0, (x.size : Int) - 1, (x.size : Int) + (y.size : Int) - 1, 0, 0, false⟩)[j']? = some u → (w4.alloc (.cells (ndL ⟨3, 0, 0, 0, 0, (x.size : Int) - 1, (x.size : Int) + (y.size : Int) - 1, 0, 0, false⟩).toArray 44)).cell? (Addr.add ⟨w4.heap.size, 0, none⟩ j') = some u) := new_cells w4 ⟨3, 0, 0, 0, 0, (x.size : Int) - 1, (x.size : Int) + (y.size : Int) - 1, 0, 0, false⟩ _ (Below.refl _ _)
    have hlen : (x.size : Int) + (y.size : Int) ≤ 4096 := by omega
    have HZ : Hid (∀ v' w5, w5.ownsRow (w.heap.size + 3) 44 10 v' (x.size + y.size + 1) (lx ++ ly ++ ndL ⟨3, 0, 0, 0, 0, (x.size : Int) - 1, (x.size : Int) + (y.size : Int) - 1, 0, 0, false⟩) → (w4.alloc (.cells (ndL ⟨3, 0, 0, 0, 0, (x.size : Int) - 1, (x.size : Int) + (y.size : Int) - 1, 0, 0, false⟩).toArray 44)).grownBy w5 (Value.slice ao4 (x.size + y.size) c4).ownBlock → ∃ ao cap, v' = .slice ao (x.size + y.size + 1) cap ∧ Cl w5 (w.heap.size + 1 + 1) 28 [.slice none 0 0] ∧ RetT w (x.size + y.size + 1) (nodes (.two 3 x y)) (.returned (.agg #[.slice ao (x.size + y.size + 1) cap])) (w5.setCell ⟨w.heap.size + 1 + 1, 0, none⟩ (.slice ao (x.size + y.size + 1) cap))) := by
      intro v' w5 h1 h2
      obtain ⟨ao, cap, rfl⟩ := ownsRow_slice h1
      have hB5 : Below (w.heap.size + 3) w4 w5 := ((below1 w4 _).mono (by omega)).grown h2 (by simp; omega) (ownsRow_own o4)
      rw [← Int.natCast_add, hlist] at h1
      have hb := fun g hg => ownsRow_own h1 g hg
      exact ⟨ao, cap, rfl, kr4.belowB hB5 (by omega), ao, cap, rfl, own_other (ownsRow_base h1 (by omega)) (fun g hg => by have := hb g hg; omega) _ _, (hB4.trans (hB5.mono (by omega))).setCell (p := ⟨w.heap.size + 1 + 1, 0, none⟩) (by simp; omega) _⟩
    clear o4 hlist
    unfold ndL at HN HZ o5
    go_wp2_with (at_builtin; refine wpList_append_own _ rfl _ _ 26 rfl (w.heap.size + 3) 44 i0 _ 10 80 Try.underlying26 hi hz0 hz1 hz2 rfl (by decide) _ _ _ rfl o5 ⟨w4.heap.size, 0, none⟩ 1 1 [.int .i64 3, .int .u64 0, .int .u64 0, .int .u64 0, .int .u64 0, .int .i64 ((x.size : Int) - 1), .int .i64 ((x.size : Int) + (y.size : Int) - 1), .int .i64 0, .int .i64 0, .bool false] rfl rfl HN.out (by simp [Value.oneCell']) (by unfold maxLen; omega) (by omega) (by simp; omega) ?_; intro v' w5 hown hgr hnil'; obtain ⟨ao, cap, rfl, k5, hR⟩ := HZ.out v' w5 hown hgr; clear hown hgr hnil'; obtain ⟨d1, d2⟩ := k5.one; have dd := (k5.set 0 (.slice ao (x.size + y.size + 1) cap)).cell 0 rfl; have HQ : Hid _ := hR; clear hR)
    exact bodyPost_ret (by simp [results, Try.results20, go_sem, dd]) rfl HQ.out
  · go_upto_region 6 with (first | (go_at_call 41; first | (clear m1; refine HA.mono ?_; rintro e w1 ⟨ta, c1, rfl, r1, _, or1, b1⟩; have s1 := b1.size; rw [hszW] at s1; have hB1 := hW0.trans (b1.mono (by simp; omega)); have kb1 := kb.below b1; have kr1 := kr.below b1; clear d0) | (refine (HB.out _ (HRB.out _ hB2)).mono ?_; rintro e w3 ⟨tb, c3, rfl, r3, _, or3, b3⟩; have s3 := b3.size; have hB3 := hB2.trans (b3.mono hB2.size); have o3 := ownsRow_below o2 b3; have kr3 := kr2.below b3; clear d0)) | (go_at_call 40; first | (clear m2; refine (HP0.out ta c1 w1 s1 r1 (hoa ta or1)).mono ?_; rintro e w2 ⟨ao2, c2, rfl, o2, b2⟩; have s2 := b2.size; have hB2 := hB1.trans (b2.mono (by omega)); have kb2 := kb1.belowB b2 (by omega); have kr2 := kr1.belowB b2 (by omega); have d0 := kb2.cell 0 rfl) | (refine (HP1.out ao2 c2 tb c3 w3 o3 (by omega) r3 (hob tb or3)).mono ?_; rintro e w4 ⟨ao4, c4, rfl, o4, b4⟩; have s4 := b4.size; have hB4 := hB3.trans (b4.mono (by omega)); have kr4 := kr3.belowB b4 (by omega))))
    have o5 := ownsRow_below o4 (below1 w4 (.cells (ndL ⟨4, 0, 0, 0, 0, (x.size : Int) - 1, (x.size : Int) + (y.size : Int) - 1, 0, 0, false⟩).toArray 44))
    have HN : Hid (∀ j' u, (ndL ⟨4, 0, 0, 0, 0, (x.size : Int) - 1, (x.size : Int) + (y.size : Int) - 1, 0, 0, false⟩)[j']? = some u → (w4.alloc (.cells (ndL ⟨4, 0, 0, 0, 0, (x.size : Int) - 1, (x.size : Int) + (y.size : Int) - 1, 0, 0, false⟩).toArray 44)).cell? (Addr.add ⟨w4.heap.size, 0, none⟩ j') = some u) := new_cells w4 ⟨4, 0, 0, 0, 0, (x.size : Int) - 1, (x.size : Int) + (y.size : Int) - 1, 0, 0, false⟩ _ (Below.refl _ _)
    have hlen : (x.size : Int) + (y.size : Int) ≤ 4096 := by omega
    have HZ : Hid (∀ v' w5, w5.ownsRow (w.heap.size + 3) 44 10 v' (x.size + y.size + 1) (lx ++ ly ++ ndL ⟨4, 0, 0, 0, 0, (x.size : Int) - 1, (x.size : Int) + (y.size : Int) - 1, 0, 0, false⟩) → (w4.alloc (.cells (ndL ⟨4, 0, 0, 0, 0, (x.size : Int) - 1, (x.size : Int) + (y.size : Int) - 1, 0, 0, false⟩).toArray 44)).grownBy w5 (Value.slice ao4 (x.size + y.size) c4).ownBlock → ∃ ao cap, v' = .slice ao (x.size + y.size + 1) cap ∧ Cl w5 (w.heap.size + 1 + 1) 28 [.slice none 0 0] ∧ RetT w (x.size + y.size + 1) (nodes (.two 4 x y)) (.returned (.agg #[.slice ao (x.size + y.size + 1) cap])) (w5.setCell ⟨w.heap.size + 1 + 1, 0, none⟩ (.slice ao (x.size + y.size + 1) cap))) := by
      intro v' w5 h1 h2
      obtain ⟨ao, cap, rfl⟩ := ownsRow_slice h1
      have hB5 : Below (w.heap.size + 3) w4 w5 := ((below1 w4 _).mono (by omega)).grown h2 (by simp; omega) (ownsRow_own o4)
      rw [← Int.natCast_add, hlist] at h1
      have hb := fun g hg => ownsRow_own h1 g hg
      exact ⟨ao, cap, rfl, kr4.belowB hB5 (by omega), ao, cap, rfl, own_other (ownsRow_base h1 (by omega)) (fun g hg => by have := hb g hg; omega) _ _, (hB4.trans (hB5.mono (by omega))).setCell (p := ⟨w.heap.size + 1 + 1, 0, none⟩) (by simp; omega) _⟩
    clear o4 hlist
    unfold ndL at HN HZ o5
    go_wp2_with (at_builtin; refine wpList_append_own _ rfl _ _ 26 rfl (w.heap.size + 3) 44 i0 _ 10 80 Try.underlying26 hi hz0 hz1 hz2 rfl (by decide) _ _ _ rfl o5 ⟨w4.heap.size, 0, none⟩ 1 1 [.int .i64 4, .int .u64 0, .int .u64 0, .int .u64 0, .int .u64 0, .int .i64 ((x.size : Int) - 1), .int .i64 ((x.size : Int) + (y.size : Int) - 1), .int .i64 0, .int .i64 0, .bool false] rfl rfl HN.out (by simp [Value.oneCell']) (by unfold maxLen; omega) (by omega) (by simp; omega) ?_; intro v' w5 hown hgr hnil'; obtain ⟨ao, cap, rfl, k5, hR⟩ := HZ.out v' w5 hown hgr; clear hown hgr hnil'; obtain ⟨d1, d2⟩ := k5.one; have dd := (k5.set 0 (.slice ao (x.size + y.size + 1) cap)).cell 0 rfl; have HQ : Hid _ := hR; clear hR)
    exact bodyPost_ret (by simp [results, Try.results20, go_sem, dd]) rfl HQ.out
end Go.Proofs.Ytlmmiicibjfcdaa.T
