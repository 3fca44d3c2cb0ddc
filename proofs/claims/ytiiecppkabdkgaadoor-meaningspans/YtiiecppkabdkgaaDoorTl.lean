/- The reference's Empty: the walk. -/
import Derived.Test.YtiiecppkabdkgaaDoorTi
import Derived.Test.YtiiecppkabdkgaaDoorRa
namespace Go.Proofs.YtiiecppkabdkgaaDoor
open Go.RowKit
/-- Whether each node of a tree may mean no bytes. -/
def nulAt (t : Tre) (i : Nat) : Bool := match t.subs[i]? with
  | some u => nul u
  | none => false
theorem nulAt_of {t u : Tre} {i : Nat} (h : t.subs[i]? = some u) : nulAt t i = nul u := by unfold nulAt; rw [h]
theorem bools_snoc (p : Nat → Bool) (k : Nat) : bools p (k + 1) = bools p k ++ [.bool (p k)] := by unfold bools; rw [List.range_succ, List.map_append]; rfl
theorem new_bool (w3 : World) (y : Value) : ∀ j u, [y][j]? = some u → (w3.alloc (.cells #[y] 4)).cell? (Addr.add ⟨w3.heap.size, 0, none⟩ j) = some u := fun j u hj => by
  have hj0 : j = 0 := by
    have := (List.getElem?_eq_some_iff.1 hj).1
    simpa using this
  subst hj0
  simpa [Addr.add] using (Cl.new w3 4 [y]).cell 0 hj
structure EsI (w : World) (to_ : Option Addr) (m c k : Nat) (T : Nat → Bool) (v : Value) (W : World) : Prop where
  box : Cl W w.heap.size 24 [.slice to_ m c]
  own : W.ownsRow (w.heap.size + 1) 4 1 v k (bools T k)
  bel : Below w.heap.size w W
set_option maxRecDepth 10000 in
set_option maxHeartbeats 16000000 in
theorem empty22_ok (to_ : Option Addr) (m c : Nat) (F : Nat → Nd) (t : Tre) (w : World) (ht : RdN w to_ m F) (hm : m ≤ 60) (hck : chkE F m = 0) (htr : treeOf F m = some t) :
    Calls Tryd.prog 22 #[.agg #[.slice to_ m c]] w fun e w' => e = .returned (.bool (nul t)) ∧ Below w.heap.size w w' := by
  obtain ⟨hsz, hok, _, hFn⟩ := treeOf_some htr
  obtain ⟨i0, hi, hz0, hz1, hz2⟩ := info_parts b_bool
  have hb0 := below1 w (.cells #[.slice to_ m c] 24)
  have k0 := Cl.new w 24 [.slice to_ m c]
  have d0 := k0.cell 0 rfl
  have HK := rcheck_any to_ m c F _ (ht.below hb0) (by omega)
  rw [hck] at HK
  have hm1 : 1 ≤ m := by have := t.size_pos; omega
  have hlast : t.subs[m - 1]? = some t := by rw [hsz]; exact Tre.subs_last t
  rw [← nulAt_of hlast]
  have HZ0 : Hid (m = t.size) := hsz
  clear hlast htr hck hsz
  go_enter Tryd.func22, Tryd.ntmps22
  go_wp2_with fail
  refine HK.mono ?_
  rintro e w1 ⟨rfl, b1⟩
  have S0 : EsI w to_ m c 0 (nulAt t) (.slice none 0 0) w1 := ⟨k0.below b1, World.ownsRow_nil _ _ _ _, hb0.trans (b1.mono hb0.size)⟩
  clear HK b1 k0 d0 hb0
  go_wp2_with fail
  go_loopw [3, 4] (fun v i wr => ∃ k : Nat, k ≤ m ∧ i = .int .i64 (k : Nat) ∧ EsI w to_ m c k (nulAt t) v wr) (fun _ i _ => m - (intOf i).toNat)
  case atStart => exact ⟨0, Nat.zero_le _, rfl, S0⟩
  case round =>
    obtain ⟨k, hk, rfl, hS⟩ := hrel
    clear S0
    have hown := hS.own
    obtain ⟨lo, lc, rfl⟩ := ownsRow_slice hown
    have da := hS.box.cell 0 rfl
    have hsw := hS.bel.size
    have hbx := hS.box.lt
    by_cases hlt : k < m
    · have hki : (k : Int) < (m : Int) := by omega
      obtain ⟨u, hu⟩ : ∃ u, t.subs[k]? = some u := ⟨_, List.getElem?_eq_getElem (by rw [Tre.subs_length]; have := HZ0.out; omega)⟩
      have hFk : F k = u.nd k := by rw [hFn k hlt, nodes_get hu]
      have huo := subs_ok t k u hok hu
      have hTk := nulAt_of hu
      obtain ⟨bb, off, rfl, hbb, hcs⟩ := ht (by omega)
      obtain ⟨c0, c1, c2, c3, c4, c5, c6, c7, c8, c9⟩ := hcs k hlt
      rw [← hS.bel.cell (p := ⟨bb, _, none⟩) hbb] at c0 c1 c2 c3 c4 c5 c6 c7 c8 c9
      have kX := Cl.new wr 66 (ndL (F k))
      have hbX := below1 wr (.cells (ndL (F k)).toArray 66)
      have hkm : (k : Int) ≤ 60 := by omega
      have hcell : ∀ i, i < k → ∀ W, Below wr.heap.size wr W → lo = some ⟨(lo.getD ⟨0, 0, none⟩).block, 0, none⟩ ∧ W.cell? ⟨(lo.getD ⟨0, 0, none⟩).block, i, none⟩ = some (.bool (nulAt t i)) := fun i hi' W hW => by
        obtain ⟨g0, e0, hl0, _, hc0, _⟩ := row_cell hown (by omega)
        subst e0
        refine ⟨rfl, ?_⟩
        show W.cell? ⟨g0, i, none⟩ = _
        rw [hW.cell (p := ⟨g0, i, none⟩) hl0]
        exact hc0 i _ (bools_get _ hi')
      have HP : Hid (∀ V x v' w4, Below wr.heap.size wr V → nulAt t k = x → w4.ownsRow (w.heap.size + 1) 4 1 v' (k + 1) (bools (nulAt t) k ++ [.bool x]) → (V.alloc (.cells #[.bool x] 4)).grownBy w4 (Value.slice lo k lc).ownBlock → ∃ k' : Nat, k' ≤ m ∧ Value.int .i64 ((k : Int) + 1) = .int .i64 (k' : Nat) ∧ EsI w (some ⟨bb, off, none⟩) m c k' (nulAt t) v' w4) := fun V x v' w4 hV hx h4 h5 => by
        have hsV := hV.size
        have hbel : Below (w.heap.size + 1) wr w4 := ((hV.mono (by omega)).alloc (by omega) _).grown h5 (by simp; omega) (fun g hg => ownsRow_own hown g hg)
        exact ⟨k + 1, by omega, by simp, hS.box.belowB hbel (by omega), by rw [bools_snoc, hx]; exact h4, hS.bel.trans (hbel.mono (by omega))⟩
      have HO : Hid (∀ V (y : Value), Below wr.heap.size wr V → (V.alloc (.cells #[y] 4)).ownsRow (w.heap.size + 1) 4 1 (.slice lo k lc) k (bools (nulAt t) k)) := fun V y h => ownsRow_below (ownsRow_below hown h) (below1 _ _)
      cases u with
      | leaf q =>
        have hqk := lf_kind huo
        simp only [Tre.nd] at hFk
        rw [hFk] at kX hbX c0 c1 c2 c3 c4 c5 c6 c7 c8 c9
        have t3 : (q.k == 3) = false := by simp; omega
        have t4 : (q.k == 4) = false := by simp; omega
        have t5 : (q.k == 5) = false := by simp; omega
        obtain ⟨⟨f0, f1, f2, f3, f4, f5, f6, f7, f8, f9⟩, _⟩ := kX.ten
        unfold ndL at *
        by_cases h2 : q.k = 2
        · have t2 : (q.k == 2) = true := by simpa using h2
          have hq0 : nulAt t k = false := by rw [hTk]; unfold nul; rw [t2]; rfl
          have HQ : Hid (nulAt t k = false) := hq0
          clear hq0
          have HO2 := HO.out _ (.bool false) hbX
          have HP2 : Hid (∀ v' w4, w4.ownsRow (w.heap.size + 1) 4 1 v' (k + 1) (bools (nulAt t) k ++ [.bool false]) → ((wr.alloc (.cells #[.int .i64 q.k, .int .u64 q.c0, .int .u64 q.c1, .int .u64 q.c2, .int .u64 q.c3, .int .i64 q.a, .int .i64 q.b, .int .i64 q.l, .int .i64 q.m, .bool q.z] 66)).alloc (.cells #[.bool false] 4)).grownBy w4 (Value.slice lo k lc).ownBlock → ∃ k' : Nat, k' ≤ m ∧ Value.int .i64 ((k : Int) + 1) = .int .i64 (k' : Nat) ∧ EsI w (some ⟨bb, off, none⟩) m c k' (nulAt t) v' w4) := fun v' w4 h4 h5 => HP.out _ false v' w4 hbX HQ.out h4 h5
          clear HP HO HQ hS hown hcell hFk hcs hu huo hTk hFn ht hqk h2 kX
          go_wp2_with (at_builtin; refine wpList_append_own _ rfl _ _ 47 rfl (w.heap.size + 1) 4 i0 (.bool false) 1 1 Tryd.underlying47 hi hz0 hz1 hz2 rfl (by decide) _ _ _ rfl HO2 ⟨wr.heap.size + 1, 0, none⟩ 1 1 [.bool false] rfl rfl (by have := new_bool (wr.alloc (.cells #[.int .i64 q.k, .int .u64 q.c0, .int .u64 q.c1, .int .u64 q.c2, .int .u64 q.c3, .int .i64 q.a, .int .i64 q.b, .int .i64 q.l, .int .i64 q.m, .bool q.z] 66)) (.bool false); simpa only [World.size_alloc] using this) (by simp [Value.oneCell']) (by unfold maxLen; omega) (by omega) (by simp; omega) ?_)
          intro v' w4 hown4 hgr4 _
          have HY : Hid _ := HP2.out v' w4 hown4 hgr4
          obtain ⟨vo', vc', rfl⟩ := ownsRow_slice hown4
          clear hown4 hgr4 HP2 HO2
          go_wp2_with fail
          go_roundw
          case rel => exact HY.out
          case measure => simp [intOf]; omega
        · have t2 : (q.k == 2) = false := by simpa using h2
          have hq0 : nulAt t k = true := by rw [hTk]; unfold nul; rw [t2]; rfl
          have HQ : Hid (nulAt t k = true) := hq0
          clear hq0
          have HO2 := HO.out _ (.bool true) hbX
          have HP2 : Hid (∀ v' w4, w4.ownsRow (w.heap.size + 1) 4 1 v' (k + 1) (bools (nulAt t) k ++ [.bool true]) → ((wr.alloc (.cells #[.int .i64 q.k, .int .u64 q.c0, .int .u64 q.c1, .int .u64 q.c2, .int .u64 q.c3, .int .i64 q.a, .int .i64 q.b, .int .i64 q.l, .int .i64 q.m, .bool q.z] 66)).alloc (.cells #[.bool true] 4)).grownBy w4 (Value.slice lo k lc).ownBlock → ∃ k' : Nat, k' ≤ m ∧ Value.int .i64 ((k : Int) + 1) = .int .i64 (k' : Nat) ∧ EsI w (some ⟨bb, off, none⟩) m c k' (nulAt t) v' w4) := fun v' w4 h4 h5 => HP.out _ true v' w4 hbX HQ.out h4 h5
          clear HP HO HQ hS hown hcell hFk hcs hu huo hTk hFn ht hqk h2 kX
          go_wp2_with (at_builtin; refine wpList_append_own _ rfl _ _ 47 rfl (w.heap.size + 1) 4 i0 (.bool false) 1 1 Tryd.underlying47 hi hz0 hz1 hz2 rfl (by decide) _ _ _ rfl HO2 ⟨wr.heap.size + 1, 0, none⟩ 1 1 [.bool true] rfl rfl (by have := new_bool (wr.alloc (.cells #[.int .i64 q.k, .int .u64 q.c0, .int .u64 q.c1, .int .u64 q.c2, .int .u64 q.c3, .int .i64 q.a, .int .i64 q.b, .int .i64 q.l, .int .i64 q.m, .bool q.z] 66)) (.bool true); simpa only [World.size_alloc] using this) (by simp [Value.oneCell']) (by unfold maxLen; omega) (by omega) (by simp; omega) ?_)
          intro v' w4 hown4 hgr4 _
          have HY : Hid _ := HP2.out v' w4 hown4 hgr4
          obtain ⟨vo', vc', rfl⟩ := ownsRow_slice hown4
          clear hown4 hgr4 HP2 HO2
          go_wp2_with fail
          go_roundw
          case rel => exact HY.out
          case measure => simp [intOf]; omega
      | two kk x y =>
        obtain ⟨hxy, hy, hx⟩ := subs_two hu
        have hkk : kk = 3 ∨ kk = 4 := by simp [Tre.ok] at huo; omega
        have hxs := x.size_pos
        obtain ⟨elo, dA⟩ := hcell (k - 1 - y.size) (by omega) _ hbX
        obtain ⟨_, dB⟩ := hcell (k - 1) (by omega) _ hbX
        rw [nulAt_of hx] at dA
        rw [nulAt_of hy] at dB
        have eA : (k : Int) - 1 - (y.size : Int) = ((k - 1 - y.size : Nat) : Int) := by omega
        have eB : (k : Int) - 1 = ((k - 1 : Nat) : Int) := by omega
        have lA : ((k - 1 - y.size : Nat) : Int) < (k : Int) := by omega
        have lB : ((k - 1 : Nat) : Int) < (k : Int) := by omega
        simp only [Tre.nd] at hFk
        rw [eA, eB] at hFk
        rw [hFk] at kX hbX c0 c1 c2 c3 c4 c5 c6 c7 c8 c9 dA dB
        generalize (lo.getD ⟨0, 0, none⟩).block = g0 at *
        subst elo
        obtain ⟨⟨f0, f1, f2, f3, f4, f5, f6, f7, f8, f9⟩, _⟩ := kX.ten
        generalize k - 1 - y.size = kA at *
        generalize k - 1 = kB at *
        unfold ndL at *
        dsimp only at *
        rcases hkk with rfl | rfl
        · cases hnx : nul x with
          | true =>
            rw [hnx] at dA
            obtain ⟨ny, hny⟩ : ∃ ny, nul y = ny := ⟨_, rfl⟩
            rw [hny] at dB
            have hq0 : nulAt t k = ny := by rw [hTk]; unfold nul; simp [hnx, hny]
            have HQ : Hid (nulAt t k = ny) := hq0
            clear hq0
            have HO2 := HO.out _ (.bool ny) hbX
            have HP2 : Hid (∀ v' w4, w4.ownsRow (w.heap.size + 1) 4 1 v' (k + 1) (bools (nulAt t) k ++ [.bool ny]) → ((wr.alloc (.cells #[.int .i64 3, .int .u64 0, .int .u64 0, .int .u64 0, .int .u64 0, .int .i64 (kA : Int), .int .i64 (kB : Int), .int .i64 0, .int .i64 0, .bool false] 66)).alloc (.cells #[.bool ny] 4)).grownBy w4 (Value.slice (some ⟨g0, 0, none⟩) k lc).ownBlock → ∃ k' : Nat, k' ≤ m ∧ Value.int .i64 ((k : Int) + 1) = .int .i64 (k' : Nat) ∧ EsI w (some ⟨bb, off, none⟩) m c k' (nulAt t) v' w4) := fun v' w4 h4 h5 => HP.out _ ny v' w4 hbX HQ.out h4 h5
            clear HP HO HQ hS hown hcell hFk hcs hx hy hu huo hTk hFn ht kX hnx hny
            go_wp2_with (at_builtin; refine wpList_append_own _ rfl _ _ 47 rfl (w.heap.size + 1) 4 i0 (.bool false) 1 1 Tryd.underlying47 hi hz0 hz1 hz2 rfl (by decide) _ _ _ rfl HO2 ⟨wr.heap.size + 1, 0, none⟩ 1 1 [.bool ny] rfl rfl (by have := new_bool (wr.alloc (.cells #[.int .i64 3, .int .u64 0, .int .u64 0, .int .u64 0, .int .u64 0, .int .i64 (kA : Int), .int .i64 (kB : Int), .int .i64 0, .int .i64 0, .bool false] 66)) (.bool ny); simpa only [World.size_alloc] using this) (by simp [Value.oneCell']) (by unfold maxLen; omega) (by omega) (by simp; omega) ?_)
            intro v' w4 hown4 hgr4 _
            have HY : Hid _ := HP2.out v' w4 hown4 hgr4
            obtain ⟨vo', vc', rfl⟩ := ownsRow_slice hown4
            clear hown4 hgr4 HP2 HO2
            go_wp2_with fail
            go_roundw
            case rel => exact HY.out
            case measure => simp [intOf]; omega
          | false =>
            rw [hnx] at dA
            have hq0 : nulAt t k = false := by rw [hTk]; unfold nul; simp [hnx]
            have HQ : Hid (nulAt t k = false) := hq0
            clear hq0
            have HO2 := HO.out _ (.bool false) hbX
            have HP2 : Hid (∀ v' w4, w4.ownsRow (w.heap.size + 1) 4 1 v' (k + 1) (bools (nulAt t) k ++ [.bool false]) → ((wr.alloc (.cells #[.int .i64 3, .int .u64 0, .int .u64 0, .int .u64 0, .int .u64 0, .int .i64 (kA : Int), .int .i64 (kB : Int), .int .i64 0, .int .i64 0, .bool false] 66)).alloc (.cells #[.bool false] 4)).grownBy w4 (Value.slice (some ⟨g0, 0, none⟩) k lc).ownBlock → ∃ k' : Nat, k' ≤ m ∧ Value.int .i64 ((k : Int) + 1) = .int .i64 (k' : Nat) ∧ EsI w (some ⟨bb, off, none⟩) m c k' (nulAt t) v' w4) := fun v' w4 h4 h5 => HP.out _ false v' w4 hbX HQ.out h4 h5
            clear HP HO HQ hS hown hcell hFk hcs hx hy hu huo hTk hFn ht kX hnx dB
            go_wp2_with (at_builtin; refine wpList_append_own _ rfl _ _ 47 rfl (w.heap.size + 1) 4 i0 (.bool false) 1 1 Tryd.underlying47 hi hz0 hz1 hz2 rfl (by decide) _ _ _ rfl HO2 ⟨wr.heap.size + 1, 0, none⟩ 1 1 [.bool false] rfl rfl (by have := new_bool (wr.alloc (.cells #[.int .i64 3, .int .u64 0, .int .u64 0, .int .u64 0, .int .u64 0, .int .i64 (kA : Int), .int .i64 (kB : Int), .int .i64 0, .int .i64 0, .bool false] 66)) (.bool false); simpa only [World.size_alloc] using this) (by simp [Value.oneCell']) (by unfold maxLen; omega) (by omega) (by simp; omega) ?_)
            intro v' w4 hown4 hgr4 _
            have HY : Hid _ := HP2.out v' w4 hown4 hgr4
            obtain ⟨vo', vc', rfl⟩ := ownsRow_slice hown4
            clear hown4 hgr4 HP2 HO2
            go_wp2_with fail
            go_roundw
            case rel => exact HY.out
            case measure => simp [intOf]; omega
        · cases hnx : nul x with
          | true =>
            rw [hnx] at dA
            have hq0 : nulAt t k = true := by rw [hTk]; unfold nul; simp [hnx]
            have HQ : Hid (nulAt t k = true) := hq0
            clear hq0
            have HO2 := HO.out _ (.bool true) hbX
            have HP2 : Hid (∀ v' w4, w4.ownsRow (w.heap.size + 1) 4 1 v' (k + 1) (bools (nulAt t) k ++ [.bool true]) → ((wr.alloc (.cells #[.int .i64 4, .int .u64 0, .int .u64 0, .int .u64 0, .int .u64 0, .int .i64 (kA : Int), .int .i64 (kB : Int), .int .i64 0, .int .i64 0, .bool false] 66)).alloc (.cells #[.bool true] 4)).grownBy w4 (Value.slice (some ⟨g0, 0, none⟩) k lc).ownBlock → ∃ k' : Nat, k' ≤ m ∧ Value.int .i64 ((k : Int) + 1) = .int .i64 (k' : Nat) ∧ EsI w (some ⟨bb, off, none⟩) m c k' (nulAt t) v' w4) := fun v' w4 h4 h5 => HP.out _ true v' w4 hbX HQ.out h4 h5
            clear HP HO HQ hS hown hcell hFk hcs hx hy hu huo hTk hFn ht kX hnx dB
            go_wp2_with (at_builtin; refine wpList_append_own _ rfl _ _ 47 rfl (w.heap.size + 1) 4 i0 (.bool false) 1 1 Tryd.underlying47 hi hz0 hz1 hz2 rfl (by decide) _ _ _ rfl HO2 ⟨wr.heap.size + 1, 0, none⟩ 1 1 [.bool true] rfl rfl (by have := new_bool (wr.alloc (.cells #[.int .i64 4, .int .u64 0, .int .u64 0, .int .u64 0, .int .u64 0, .int .i64 (kA : Int), .int .i64 (kB : Int), .int .i64 0, .int .i64 0, .bool false] 66)) (.bool true); simpa only [World.size_alloc] using this) (by simp [Value.oneCell']) (by unfold maxLen; omega) (by omega) (by simp; omega) ?_)
            intro v' w4 hown4 hgr4 _
            have HY : Hid _ := HP2.out v' w4 hown4 hgr4
            obtain ⟨vo', vc', rfl⟩ := ownsRow_slice hown4
            clear hown4 hgr4 HP2 HO2
            go_wp2_with fail
            go_roundw
            case rel => exact HY.out
            case measure => simp [intOf]; omega
          | false =>
            rw [hnx] at dA
            obtain ⟨ny, hny⟩ : ∃ ny, nul y = ny := ⟨_, rfl⟩
            rw [hny] at dB
            have hq0 : nulAt t k = ny := by rw [hTk]; unfold nul; simp [hnx, hny]
            have HQ : Hid (nulAt t k = ny) := hq0
            clear hq0
            have HO2 := HO.out _ (.bool ny) hbX
            have HP2 : Hid (∀ v' w4, w4.ownsRow (w.heap.size + 1) 4 1 v' (k + 1) (bools (nulAt t) k ++ [.bool ny]) → ((wr.alloc (.cells #[.int .i64 4, .int .u64 0, .int .u64 0, .int .u64 0, .int .u64 0, .int .i64 (kA : Int), .int .i64 (kB : Int), .int .i64 0, .int .i64 0, .bool false] 66)).alloc (.cells #[.bool ny] 4)).grownBy w4 (Value.slice (some ⟨g0, 0, none⟩) k lc).ownBlock → ∃ k' : Nat, k' ≤ m ∧ Value.int .i64 ((k : Int) + 1) = .int .i64 (k' : Nat) ∧ EsI w (some ⟨bb, off, none⟩) m c k' (nulAt t) v' w4) := fun v' w4 h4 h5 => HP.out _ ny v' w4 hbX HQ.out h4 h5
            clear HP HO HQ hS hown hcell hFk hcs hx hy hu huo hTk hFn ht kX hnx hny
            go_wp2_with (at_builtin; refine wpList_append_own _ rfl _ _ 47 rfl (w.heap.size + 1) 4 i0 (.bool false) 1 1 Tryd.underlying47 hi hz0 hz1 hz2 rfl (by decide) _ _ _ rfl HO2 ⟨wr.heap.size + 1, 0, none⟩ 1 1 [.bool ny] rfl rfl (by have := new_bool (wr.alloc (.cells #[.int .i64 4, .int .u64 0, .int .u64 0, .int .u64 0, .int .u64 0, .int .i64 (kA : Int), .int .i64 (kB : Int), .int .i64 0, .int .i64 0, .bool false] 66)) (.bool ny); simpa only [World.size_alloc] using this) (by simp [Value.oneCell']) (by unfold maxLen; omega) (by omega) (by simp; omega) ?_)
            intro v' w4 hown4 hgr4 _
            have HY : Hid _ := HP2.out v' w4 hown4 hgr4
            obtain ⟨vo', vc', rfl⟩ := ownsRow_slice hown4
            clear hown4 hgr4 HP2 HO2
            go_wp2_with fail
            go_roundw
            case rel => exact HY.out
            case measure => simp [intOf]; omega
      | rep x l m' z =>
        obtain ⟨hxk, hx⟩ := subs_rep hu
        have hmay : Tre.mayR l m' = true := by simp [Tre.ok] at huo; exact huo.1
        have hl0 := (mayR_mid hmay).1
        have hxs := x.size_pos
        obtain ⟨elo, dA⟩ := hcell (k - 1) (by omega) _ hbX
        rw [nulAt_of hx] at dA
        have eB : (k : Int) - 1 = ((k - 1 : Nat) : Int) := by omega
        have lB : ((k - 1 : Nat) : Int) < (k : Int) := by omega
        simp only [Tre.nd] at hFk
        rw [eB] at hFk
        rw [hFk] at kX hbX c0 c1 c2 c3 c4 c5 c6 c7 c8 c9 dA
        generalize (lo.getD ⟨0, 0, none⟩).block = g0 at *
        subst elo
        obtain ⟨⟨f0, f1, f2, f3, f4, f5, f6, f7, f8, f9⟩, _⟩ := kX.ten
        generalize k - 1 = kB at *
        unfold ndL at *
        dsimp only at *
        by_cases hz : l = 0
        · have e0 : (l == 0) = true := by simpa using hz
          have hq0 : nulAt t k = true := by rw [hTk]; unfold nul; simp; left; omega
          have HQ : Hid (nulAt t k = true) := hq0
          clear hq0
          have HO2 := HO.out _ (.bool true) hbX
          have HP2 : Hid (∀ v' w4, w4.ownsRow (w.heap.size + 1) 4 1 v' (k + 1) (bools (nulAt t) k ++ [.bool true]) → ((wr.alloc (.cells #[.int .i64 5, .int .u64 0, .int .u64 0, .int .u64 0, .int .u64 0, .int .i64 (kB : Int), .int .i64 0, .int .i64 l, .int .i64 m', .bool z] 66)).alloc (.cells #[.bool true] 4)).grownBy w4 (Value.slice (some ⟨g0, 0, none⟩) k lc).ownBlock → ∃ k' : Nat, k' ≤ m ∧ Value.int .i64 ((k : Int) + 1) = .int .i64 (k' : Nat) ∧ EsI w (some ⟨bb, off, none⟩) m c k' (nulAt t) v' w4) := fun v' w4 h4 h5 => HP.out _ true v' w4 hbX HQ.out h4 h5
          clear HP HO HQ hS hown hcell hFk hcs hx hu huo hTk hFn ht kX hz hmay hl0 dA
          go_wp2_with (at_builtin; refine wpList_append_own _ rfl _ _ 47 rfl (w.heap.size + 1) 4 i0 (.bool false) 1 1 Tryd.underlying47 hi hz0 hz1 hz2 rfl (by decide) _ _ _ rfl HO2 ⟨wr.heap.size + 1, 0, none⟩ 1 1 [.bool true] rfl rfl (by have := new_bool (wr.alloc (.cells #[.int .i64 5, .int .u64 0, .int .u64 0, .int .u64 0, .int .u64 0, .int .i64 (kB : Int), .int .i64 0, .int .i64 l, .int .i64 m', .bool z] 66)) (.bool true); simpa only [World.size_alloc] using this) (by simp [Value.oneCell']) (by unfold maxLen; omega) (by omega) (by simp; omega) ?_)
          intro v' w4 hown4 hgr4 _
          have HY : Hid _ := HP2.out v' w4 hown4 hgr4
          obtain ⟨vo', vc', rfl⟩ := ownsRow_slice hown4
          clear hown4 hgr4 HP2 HO2
          go_wp2_with fail
          go_roundw
          case rel => exact HY.out
          case measure => simp [intOf]; omega
        · have e0 : (l == 0) = false := by simpa using hz
          obtain ⟨nx, hnx⟩ : ∃ nx, nul x = nx := ⟨_, rfl⟩
          rw [hnx] at dA
          have hq0 : nulAt t k = nx := by rw [hTk]; unfold nul; rw [hnx]; simp; intro h; omega
          have HQ : Hid (nulAt t k = nx) := hq0
          clear hq0
          have HO2 := HO.out _ (.bool nx) hbX
          have HP2 : Hid (∀ v' w4, w4.ownsRow (w.heap.size + 1) 4 1 v' (k + 1) (bools (nulAt t) k ++ [.bool nx]) → ((wr.alloc (.cells #[.int .i64 5, .int .u64 0, .int .u64 0, .int .u64 0, .int .u64 0, .int .i64 (kB : Int), .int .i64 0, .int .i64 l, .int .i64 m', .bool z] 66)).alloc (.cells #[.bool nx] 4)).grownBy w4 (Value.slice (some ⟨g0, 0, none⟩) k lc).ownBlock → ∃ k' : Nat, k' ≤ m ∧ Value.int .i64 ((k : Int) + 1) = .int .i64 (k' : Nat) ∧ EsI w (some ⟨bb, off, none⟩) m c k' (nulAt t) v' w4) := fun v' w4 h4 h5 => HP.out _ nx v' w4 hbX HQ.out h4 h5
          clear HP HO HQ hS hown hcell hFk hcs hx hu huo hTk hFn ht kX hz hmay hl0 hnx
          go_wp2_with (at_builtin; refine wpList_append_own _ rfl _ _ 47 rfl (w.heap.size + 1) 4 i0 (.bool false) 1 1 Tryd.underlying47 hi hz0 hz1 hz2 rfl (by decide) _ _ _ rfl HO2 ⟨wr.heap.size + 1, 0, none⟩ 1 1 [.bool nx] rfl rfl (by have := new_bool (wr.alloc (.cells #[.int .i64 5, .int .u64 0, .int .u64 0, .int .u64 0, .int .u64 0, .int .i64 (kB : Int), .int .i64 0, .int .i64 l, .int .i64 m', .bool z] 66)) (.bool nx); simpa only [World.size_alloc] using this) (by simp [Value.oneCell']) (by unfold maxLen; omega) (by omega) (by simp; omega) ?_)
          intro v' w4 hown4 hgr4 _
          have HY : Hid _ := HP2.out v' w4 hown4 hgr4
          obtain ⟨vo', vc', rfl⟩ := ownsRow_slice hown4
          clear hown4 hgr4 HP2 HO2
          go_wp2_with fail
          go_roundw
          case rel => exact HY.out
          case measure => simp [intOf]; omega
    · obtain rfl : k = m := by omega
      have hki : ¬ (k : Int) < (k : Int) := by omega
      obtain ⟨g0, rfl, hl0, _, hc0, _⟩ := row_cell hown (by omega)
      have dl := hc0 (k - 1) _ (bools_get _ (show k - 1 < k by omega))
      obtain ⟨Z, hZ⟩ : ∃ Z, nulAt t (k - 1) = Z := ⟨_, rfl⟩
      rw [hZ] at dl
      have HZ : Hid (nulAt t (k - 1) = Z) := hZ
      obtain ⟨kk, hkk⟩ : ∃ kk, k - 1 = kk := ⟨_, rfl⟩
      rw [hkk] at dl
      have hbw := hS.bel
      have hk1 : (k : Int) - 1 = (kk : Int) := by omega
      have hkw : IntKind.i64.wrap ((k : Int) - 1) = (kk : Int) := by rw [IntKind.wrap_i64]; omega
      have hk2 : (kk : Int) < (k : Int) := by omega
      clear hS hown hc0 hFn ht hZ hkk
      go_wp2_with fail
      go_ret
      exact ⟨by rw [HZ.out]; rfl, hbw⟩
end Go.Proofs.YtiiecppkabdkgaaDoor
