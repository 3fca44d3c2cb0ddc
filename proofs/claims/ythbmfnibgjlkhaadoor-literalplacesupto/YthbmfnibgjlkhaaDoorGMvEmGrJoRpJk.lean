/- moved: the walk. empty, joins, sound, Leaf, and the reference's Empty, Leaf: the walks. slices.Grow of nil, slices.Concat of two: the walks. Join: the walk. Repeat: the walk. Which kinds join. -/
import Derived.Test.YthbmfnibgjlkhaaDoorGSpSaNl
import Derived.Lib.AppendZeros
import Derived.Laws.AppendOwnNone
import Derived.Deep.RegionHeld3
import Derived.Deep.AppendLies
namespace Go.Proofs.YthbmfnibgjlkhaaDoor
open Go.RowKit
def updN (F : Nat → Nd) (i : Nat) (x : Nd) : Nat → Nd := fun j => if j = i then x else F j
theorem ndsL_set (F : Nat → Nd) (n i j : Nat) (u : Value) (x : Nd) (_hi : i < n) (hj : j < 10) (h : (ndL (F i)).set j u = ndL x) : (ndsL F n).set (i * 10 + j) u = ndsL (updN F i x) n := by
  apply List.ext_getElem?
  intro q
  by_cases hq : q < n * 10
  · have hd : q = q / 10 * 10 + q % 10 := by omega
    rw [List.getElem?_set]
    rw [hd, ndsL_get F n _ _ (by omega) (by omega), ndsL_get _ n _ _ (by omega) (by omega)]
    by_cases e : i = q / 10
    · have e2 : updN F i x (q / 10) = x := by simp [updN, e]
      rw [e2, ← h, List.getElem?_set]
      by_cases e3 : j = q % 10
      · rw [if_pos (by omega), if_pos e3, ndsL_len, ndL_len, if_pos (by omega), if_pos (by omega)]
      · rw [if_neg (by omega), if_neg e3, e]
    · have e2 : updN F i x (q / 10) = F (q / 10) := by simp [updN, Ne.symm e]
      rw [e2, if_neg (by omega)]
  · rw [List.getElem?_eq_none (by simp [ndsL_len]; omega), List.getElem?_eq_none (by simp [ndsL_len]; omega)]
/-- The first k nodes moved. -/
def mvF (by_ : Int) (k : Nat) (F : Nat → Nd) : Nat → Nd := fun i => if i < k then sh by_ (F i) else F i
theorem mvF_at (by_ : Int) (k : Nat) (F : Nat → Nd) : mvF by_ k F k = F k := by simp [mvF]
theorem mvF_succ (by_ : Int) (k : Nat) (F : Nat → Nd) : updN (mvF by_ k F) k (sh by_ (F k)) = mvF by_ (k + 1) F := by
  funext i
  by_cases h : i = k
  · subst h; simp [updN, mvF]
  · by_cases h2 : i < k
    · simp [updN, mvF, h, h2, show i < k + 1 by omega]
    · simp [updN, mvF, h, h2, show ¬ i < k + 1 by omega]
theorem updN_self (F : Nat → Nd) (k : Nat) : updN F k (F k) = F := by
  funext i
  by_cases h : i = k
  · subst h; simp [updN]
  · simp [updN, h]
theorem updN_two (F : Nat → Nd) (k : Nat) (x y : Nd) : updN (updN F k x) k y = updN F k y := by
  funext i
  by_cases h : i = k <;> simp [updN, h]
end Go.Proofs.YthbmfnibgjlkhaaDoor
namespace Go.Proofs.YthbmfnibgjlkhaaDoor
open Go.RowKit
/-- What a call answers that makes a tree. -/
def RetT (w : World) (n : Nat) (F : Nat → Nd) (e : Ending) (w' : World) : Prop := ∃ ao cap, e = .returned (.agg #[.slice ao n cap]) ∧ OwN w' w.heap.size ao n cap F ∧ Below w.heap.size w w'
theorem RetT.congr {w : World} {n : Nat} {F G : Nat → Nd} {e : Ending} {w' : World} (h : RetT w n F e w') (hg : ∀ i, i < n → F i = G i) : RetT w n G e w' := by
  obtain ⟨ao, cap, he, ho, hb⟩ := h
  exact ⟨ao, cap, he, by unfold OwN; rw [← ndsL_congr hg]; exact ho, hb⟩
theorem ownsRow_cap {W : World} {base e size n cap : Nat} {ao : Option Addr} {xs : List Value} (h : W.ownsRow base e size (.slice ao n cap) n xs) : n ≤ cap := by
  rcases h.2 with ⟨h, h0⟩ | ⟨g, cap', cur, hv, _, _, hc, _⟩
  · omega
  · cases hv; exact hc
/-- One node in a new block. -/
theorem own_one (w : World) (B : Nat) (hB : B ≤ w.heap.size) (x : Nd) (F : Nat → Nd) (hF : F 0 = x) : OwN (w.alloc (.cells (ndL x).toArray 82)) B (some ⟨w.heap.size, 0, none⟩) 1 1 F := by
  have := World.ownsRow_lit (e := 82) (size := 10) w (ndL x).toArray 1 hB (by decide) rfl
  unfold OwN
  have e : ndsL F 1 = (ndL x).toArray.toList := by simp [ndsL, hF]
  rw [e]
  exact this
theorem nodes_emp : nodes emp 0 = ⟨1, 0, 0, 0, 0, 0, 0, 0, 0, false⟩ := rfl
set_option maxHeartbeats 400000 in
theorem empty_any (w : World) : Calls Tryd.prog 95 #[] w (RetT w 1 (nodes emp)) := by
  have ho := own_one (w.alloc (.cells #[.slice (some ⟨w.heap.size + 1, 0, none⟩) 1 1] 48)) w.heap.size (by simp) _ (nodes emp) nodes_emp
  simp only [World.size_alloc] at ho
  unfold ndL at ho
  dsimp only at ho
  have hb := below2 w (.cells #[.slice (some ⟨w.heap.size + 1, 0, none⟩) 1 1] 48) (.cells #[.int .i64 1, .int .u64 0, .int .u64 0, .int .u64 0, .int .u64 0, .int .i64 0, .int .i64 0, .int .i64 0, .int .i64 0, .bool false] 82)
  go_enter Tryd.func95, Tryd.ntmps95
  go_wp2
  exact bodyPost_ret (by simp [results, Tryd.results95, go_sem]) rfl ⟨_, _, rfl, ho, hb⟩
/-- What sound answers: a tree that may be, and where its subtrees start. -/
def RetSn (w : World) (t : Tre) (e : Ending) (w' : World) : Prop := ∃ a cap b, e = .returned (.tuple #[.agg #[.slice (some a) t.size cap], .slice (some ⟨b, 0, none⟩) t.size t.size]) ∧ RdN w' (some a) t.size (nodes t) ∧ (w.heap.size ≤ b ∧ t.size ≤ cap) ∧ Cl w' b 3 (ints (stF t) t.size) ∧ Below w.heap.size w w'
set_option maxRecDepth 10000 in
set_option maxHeartbeats 400000 in
theorem sound_any (ao : Option Addr) (n cap : Nat) (F : Nat → Nd) (w : World) (hr : RdN w ao n F) (hm : (n : Int) ≤ 9223372036854775807) (hcap : n ≤ cap) : Calls Tryd.prog 78 #[.agg #[.slice ao n cap]] w (RetSn w (snd F n)) := by
  have hB := below2 w (.cells #[.slice ao n cap] 48) (.cells #[.slice none 0 0] 48)
  have HS := starts_any ao n cap F ((w.alloc (.cells #[.slice ao n cap] 48)).alloc (.cells #[.slice none 0 0] 48)) (hr.below hB) hm
  have k1 : Cl ((w.alloc (.cells #[.slice ao n cap] 48)).alloc (.cells #[.slice none 0 0] 48)) w.heap.size 48 [.slice ao n cap] := (Cl.new w 48 [.slice ao n cap]).alloc _
  have k2 : Cl ((w.alloc (.cells #[.slice ao n cap] 48)).alloc (.cells #[.slice none 0 0] 48)) (w.heap.size + 1) 48 [.slice none 0 0] := by
    have := Cl.new (w.alloc (.cells #[.slice ao n cap] 48)) 48 [.slice none 0 0]
    simpa only [World.size_alloc] using this
  unfold RetSts at HS
  cases ht : treeOf F n with
  | some t =>
    have e0 : snd F n = t := by simp [snd, ht]
    obtain ⟨e1, e2, e3, e4⟩ := treeOf_some ht
    rw [ht] at HS
    obtain ⟨a, rfl⟩ : ∃ a, ao = some a := by
      obtain ⟨bb, off, e, _⟩ := hr (by have := t.size_pos; omega)
      exact ⟨_, e⟩
    have hr' : RdN w (some a) t.size (nodes t) := by rw [← e1]; exact hr.congr e4
    subst e1
    rw [e0]
    have HR : Hid (∀ b W, w.heap.size ≤ b → Cl W b 3 (ints (stF t) t.size) → Below w.heap.size w W → RetSn w t (.returned (.tuple #[.agg #[.slice (some a) t.size cap], .slice (some ⟨b, 0, none⟩) t.size t.size])) W) := fun b W h1 h2 h3 => ⟨a, cap, b, rfl, hr'.below h3, ⟨h1, hcap⟩, h2, h3⟩
    clear hr hr' e2 e3 e4 ht e0
    generalize t.size = m at *
    go_enter Tryd.func78, Tryd.ntmps78
    go_wp2_with fail
    go_at_call 93
    refine HS.mono ?_
    rintro e w1 ⟨⟨v, rfl, hv⟩, hb⟩
    obtain ⟨b, rfl, hb2, hc⟩ := hv _ rfl
    obtain ⟨d11, d12⟩ := (k1.below hb).one
    obtain ⟨d21, d22⟩ := (k2.below hb).one
    have dd := ((k2.below hb).set 0 (.slice (some a) m cap)).cell 0 rfl
    clear HS k1 k2 hv
    go_wp2
    exact bodyPost_ret (by simp [results, Tryd.results78, go_sem, dd]) rfl (HR.out b _ (Nat.le_trans (by simp; omega) hb2) (hc.other (by simp at hb2; omega) 0 _) ((hB.trans (hb.mono (by simp; omega))).setCell (p := ⟨w.heap.size + 1, 0, none⟩) (by simp) _))
  | none =>
    have e0 : snd F n = emp := by simp [snd, ht]
    rw [ht] at HS
    rw [e0]
    have e1 : ints (stF emp) emp.size = [.int .i64 0] := rfl
    have HE := empty_any
    have HR : Hid (∀ a c b W, RdN W (some a) 1 (nodes emp) → 1 ≤ c → w.heap.size ≤ b → Cl W b 3 [.int .i64 0] → Below w.heap.size w W → RetSn w emp (.returned (.tuple #[.agg #[.slice (some a) 1 c], .slice (some ⟨b, 0, none⟩) 1 1])) W) := fun a c b W h1 hc h2 h3 h4 => ⟨a, c, b, rfl, h1, ⟨h2, hc⟩, by rw [e1]; exact h3, h4⟩
    clear hr ht e0 e1
    go_enter Tryd.func78, Tryd.ntmps78
    go_wp2_with (first | (go_at_call 93; refine HS.mono ?_; rintro e w1 ⟨⟨v, rfl, _⟩, hb⟩; have d2 := k2.below hb) | (go_at_call 95; refine (HE _).mono ?_; rintro e w2 ⟨ao2, c2, rfl, ho2, hb2⟩; have d3 := (d2.below hb2).alloc (.cells #[.int .i64 0] 3); obtain ⟨d31, d32⟩ := d3.one))
    obtain ⟨g, rfl, hgl, hgB, _, _⟩ := ho2.cells (by decide)
    have hsz : w.heap.size + 1 + 1 ≤ w1.heap.size := by have := hb.size; simpa using this
    have hsz2 := hb2.size
    have dd := (d3.set 0 (.slice (some ⟨g, 0, none⟩) 1 c2)).cell 0 rfl
    have hcc := ownsRow_cap ho2
    have ho3 : OwN ((w2.alloc (.cells #[.int .i64 0] 3)).setCell ⟨w.heap.size + 1, 0, none⟩ (.slice (some ⟨g, 0, none⟩) 1 c2)) w1.heap.size (some ⟨g, 0, none⟩) 1 c2 (nodes emp) := by
      refine ownsRow_at ho2 fun g' h1 h2 => ?_
      rw [Below.heap_setCell _ _ _ _ (by simp; omega), Below.heap_alloc _ _ _ h2]
    have hk : Cl ((w2.alloc (.cells #[.int .i64 0] 3)).setCell ⟨w.heap.size + 1, 0, none⟩ (.slice (some ⟨g, 0, none⟩) 1 c2)) w2.heap.size 3 [.int .i64 0] := (Cl.new w2 3 [.int .i64 0]).other (by omega) _ _
    have hB3 : Below w.heap.size w ((w2.alloc (.cells #[.int .i64 0] 3)).setCell ⟨w.heap.size + 1, 0, none⟩ (.slice (some ⟨g, 0, none⟩) 1 c2)) := by
      refine Below.setCell (p := ⟨w.heap.size + 1, 0, none⟩) ?_ (by simp) _
      exact ((hB.trans (hb.mono (by simp; omega))).trans (hb2.mono (by omega))).alloc (by omega) _
    exact bodyPost_ret (by simp [results, Tryd.results78, go_sem, dd]) rfl (HR.out ⟨g, 0, none⟩ c2 _ _ ho3.rd hcc (by omega) hk hB3)
/-- The node of Leaf. -/
def leafN (n : Nd) : Nd := if n.k = 1 ∨ n.k = 2 ∨ n.k = 6 ∨ n.k = 7 then { n with a := 0, b := 0 } else ⟨1, 0, 0, 0, 0, 0, 0, 0, 0, false⟩
end Go.Proofs.YthbmfnibgjlkhaaDoor
namespace Go.Proofs.YthbmfnibgjlkhaaDoor
open Go.RowKit
/-- What the first k of some lists come to together. -/
def szK (N : Nat → Nat) : Nat → Nat
  | 0 => 0
  | k + 1 => szK N k + N k
def lsK (N : Nat → Nat) (G : Nat → Nat → Nd) : Nat → List Value
  | 0 => []
  | k + 1 => lsK N G k ++ ndsL (G k) (N k)
theorem szK_mono (N : Nat → Nat) : ∀ {k j : Nat}, k ≤ j → szK N k ≤ szK N j := by
  intro k j h
  induction j with
  | zero => have : k = 0 := by omega
            subst this; exact Nat.le_refl _
  | succ j ih =>
    by_cases e : k = j + 1
    · subst e; exact Nat.le_refl _
    · exact Nat.le_trans (ih (by omega)) (Nat.le_add_right _ _)
end Go.Proofs.YthbmfnibgjlkhaaDoor
namespace Go.Proofs.YthbmfnibgjlkhaaDoor
open Go.RowKit
theorem RdN.put {w : World} {ao : Option Addr} {n b : Nat} {t : TypeId} {F : Nat → Nd} {x : Option Addr} {l c : Nat} (h : RdN w ao n F) (k : Cl w b t [.slice x l c]) (v : Value) : RdN (w.setCell ⟨b, 0, none⟩ v) ao n F := by
  intro hn
  obtain ⟨bb, off, e, hlt, hc⟩ := h hn
  have hne : bb ≠ b := by
    rintro rfl
    have h0 := (hc 0 hn).1
    rw [cell_of_row w bb _ _ t (0, 0) k] at h0
    simp only [Nat.zero_mul, Nat.add_zero, List.getElem?_toArray] at h0
    cases off with
    | zero => simp at h0
    | succ o => simp at h0
  refine ⟨bb, off, e, by simpa using hlt, fun i hi => ?_⟩
  have hq : ∀ j, (w.setCell ⟨b, 0, none⟩ v).cell? ⟨bb, j, none⟩ = w.cell? ⟨bb, j, none⟩ := fun j => by
    simp [World.cell?, Below.heap_setCell w ⟨b, 0, none⟩ v bb hne]
  simpa only [hq] using hc i hi
theorem nodes_bound {t : Tre} (ho : t.ok = true) (i : Nat) (hi : i < t.size) : (-4096 ≤ (nodes t i).a ∧ (nodes t i).a ≤ 4096 ∨ 2048 < t.size) ∧ (-4096 ≤ (nodes t i).b ∧ (nodes t i).b ≤ 4096 ∨ 2048 < t.size) := by
  by_cases hs : 2048 < t.size
  · exact ⟨.inr hs, .inr hs⟩
  have hl : i < t.subs.length := by rw [Tre.subs_length]; exact hi
  have e := List.getElem?_eq_getElem hl
  rw [nodes_get e]
  have hok := subs_ok t i _ ho e
  obtain ⟨h1, _, _⟩ := subs_sub t i _ e
  generalize t.subs[i] = u at *
  cases u with
  | leaf n =>
    simp only [Tre.ok, Tre.lf, Bool.or_eq_true, Bool.and_eq_true] at hok
    simp only [Tre.nd]
    rcases hok with ⟨_, h⟩ | ⟨_, h⟩ <;> · rw [Nd.eq_iff] at h; rw [h]; simp
  | two k x y =>
    simp only [Tre.nd, Tre.size] at *
    omega
  | rep x l m z =>
    simp only [Tre.nd, Tre.size] at *
    omega
theorem nodes_bound' {t : Tre} (ho : t.ok = true) (hs : t.size ≤ 2048) : ∀ i, i < t.size → (-4096 ≤ (nodes t i).a ∧ (nodes t i).a ≤ 4096) ∧ (-4096 ≤ (nodes t i).b ∧ (nodes t i).b ≤ 4096) := fun i hi => by
  obtain ⟨h1, h2⟩ := nodes_bound ho i hi
  exact ⟨h1.resolve_right (by omega), h2.resolve_right (by omega)⟩
/-- Two lists of nodes, the second so many places further, and the node behind them. -/
theorem two_lists (k : Int) (x y : Tre) (hy : y.ok = true) : (ndsL (nodes x) x.size ++ ndsL (fun i => sh x.size (nodes y i)) y.size) ++ ndL ⟨k, 0, 0, 0, 0, x.size - 1, (x.size + y.size : Nat) - 1, 0, 0, false⟩ = ndsL (nodes (.two k x y)) (x.size + y.size + 1) := by
  rw [← ndsL_cat, ndsL]
  congr 1
  · refine ndsL_congr fun i hi => ?_
    rw [nodes_two k x y i hy (by omega)]
    unfold catF
    by_cases h : i < x.size
    · rw [if_pos h, if_pos h]
    · rw [if_neg h, if_neg h, if_pos hi]
  · rw [nodes_two k x y _ hy (by omega), if_neg (by omega), if_neg (by omega)]
    simp
end Go.Proofs.YthbmfnibgjlkhaaDoor
namespace Go.Proofs.YthbmfnibgjlkhaaDoor
open Go.RowKit
theorem rep_list (x : Tre) (l m : Int) (z : Bool) : ndsL (fun i => sh 0 (nodes x i)) x.size ++ ndL ⟨5, 0, 0, 0, 0, x.size - 1, 0, l, m, z⟩ = ndsL (nodes (.rep x l m z)) (x.size + 1) := by
  rw [ndsL]
  congr 1
  · refine ndsL_congr fun i hi => ?_
    rw [nodes_rep x l m z i (by omega), if_pos hi, sh_zero]
  · rw [nodes_rep x l m z _ (by omega), if_neg (by omega)]
theorem new_cells (w : World) (x : Nd) (w' : World) (hb : Below (w.heap.size + 1) (w.alloc (.cells (ndL x).toArray 82)) w') : ∀ j u, (ndL x)[j]? = some u → w'.cell? (Addr.add ⟨w.heap.size, 0, none⟩ j) = some u := by
  intro j u hj
  have kn := Cl.new w 82 (ndL x)
  have := kn.cell j hj
  rw [← hb.cell (p := ⟨w.heap.size, j, none⟩) (by simp)] at this
  by_cases h0 : j = 0
  · subst h0; simpa [Addr.add] using this
  · simpa [Addr.add, h0] using this
theorem Cl.belowB {w w' : World} {b B : Nat} {t : TypeId} {vs : List Value} (h : Cl w b t vs) (hb : Below B w w') (hlt : b < B) : Cl w' b t vs := by unfold Cl; rw [hb.block b hlt]; exact h
end Go.Proofs.YthbmfnibgjlkhaaDoor
namespace Go.Proofs.YthbmfnibgjlkhaaDoor
open Go.RowKit
theorem joins_any (k : Int) (w : World) : Calls Tryd.prog 98 #[.int .i64 k] w fun e w' => e = .returned (.bool (k == 3 || k == 4)) ∧ w' = w := by
  cases h3 : (k == 3)
  · go_enter Tryd.func98, Tryd.ntmps98
    go_wp2
    go_ret
    exact ⟨by simp, rfl⟩
  · go_enter Tryd.func98, Tryd.ntmps98
    go_wp2
    go_ret
    exact ⟨by simp, rfl⟩
end Go.Proofs.YthbmfnibgjlkhaaDoor
