/- one; the reference's Same of letters: the walks. cat, live: the walks. live: the walk. -/
import Derived.Test.YthbmfnibgjlkhaaDoorRb
import Derived.Test.YthbmfnibgjlkhaaDoorGPlOwRj
import Derived.Test.YthbmfnibgjlkhaaDoorGCeLi
import Derived.Deep.DeepCutAuto
namespace Go.Proofs.YthbmfnibgjlkhaaDoor
open Go.RowKit K
set_option maxRecDepth 10000 in
set_option maxHeartbeats 400000 in
theorem one_97 (w : World) : Calls Tryd.prog 33 #[.int .u8 97] w (RetT w 1 (fun _ => byteN 8589934592)) := by
  have HL : Hid (∀ W, Calls Tryd.prog 62 #[.agg #[.int .i64 2, .int .u64 0, .int .u64 8589934592, .int .u64 0, .int .u64 0, .int .i64 0, .int .i64 0, .int .i64 0, .int .i64 0, .bool false]] W (RetT W 1 (fun _ => byteN 8589934592))) := fun W => leafN_byte 8589934592 ▸ rleaf_any (byteN 8589934592) W
  have k0 := (Cl.new w 48 [.slice none 0 0]).alloc (.cells #[.int .i64 2, .int .u64 0, .int .u64 8589934592, .int .u64 0, .int .u64 0, .int .i64 0, .int .i64 0, .int .i64 0, .int .i64 0, .bool false] 82)
  have hB := below2 w (.cells #[.slice none 0 0] 48) (.cells #[.int .i64 2, .int .u64 0, .int .u64 8589934592, .int .u64 0, .int .u64 0, .int .i64 0, .int .i64 0, .int .i64 0, .int .i64 0, .bool false] 82)
  go_enter Tryd.func33, Tryd.ntmps33
  go_wp2_with (go_at_call 62; refine (HL.out _).mono ?_; rintro e w2 ⟨ao2, c2, rfl, ho2, hb2⟩; have d3 := k0.below hb2; obtain ⟨d31, d32⟩ := d3.one)
  have dd := (d3.set 0 (.slice ao2 1 c2)).cell 0 rfl
  have ho3 : OwN (w2.setCell ⟨w.heap.size, 0, none⟩ (.slice ao2 1 c2)) w.heap.size ao2 1 c2 (fun _ => byteN 8589934592) := by
    refine ownsRow_base (ownsRow_at ho2 fun g' h1 h2 => ?_) (by simp; omega)
    simp only [World.size_alloc] at h1
    rw [Below.heap_setCell _ _ _ _ (by simp; omega)]
  exact bodyPost_ret (by simp [results, Tryd.results33, go_sem, dd]) rfl ⟨ao2, c2, rfl, ho3, (hB.trans (hb2.mono (by simp; omega))).setCell (p := ⟨w.heap.size, 0, none⟩) (Nat.le_refl _) _⟩
set_option maxRecDepth 10000 in
set_option maxHeartbeats 400000 in
theorem one_98 (w : World) : Calls Tryd.prog 33 #[.int .u8 98] w (RetT w 1 (fun _ => byteN 17179869184)) := by
  have HL : Hid (∀ W, Calls Tryd.prog 62 #[.agg #[.int .i64 2, .int .u64 0, .int .u64 17179869184, .int .u64 0, .int .u64 0, .int .i64 0, .int .i64 0, .int .i64 0, .int .i64 0, .bool false]] W (RetT W 1 (fun _ => byteN 17179869184))) := fun W => leafN_byte 17179869184 ▸ rleaf_any (byteN 17179869184) W
  have k0 := (Cl.new w 48 [.slice none 0 0]).alloc (.cells #[.int .i64 2, .int .u64 0, .int .u64 17179869184, .int .u64 0, .int .u64 0, .int .i64 0, .int .i64 0, .int .i64 0, .int .i64 0, .bool false] 82)
  have hB := below2 w (.cells #[.slice none 0 0] 48) (.cells #[.int .i64 2, .int .u64 0, .int .u64 17179869184, .int .u64 0, .int .u64 0, .int .i64 0, .int .i64 0, .int .i64 0, .int .i64 0, .bool false] 82)
  go_enter Tryd.func33, Tryd.ntmps33
  go_wp2_with (go_at_call 62; refine (HL.out _).mono ?_; rintro e w2 ⟨ao2, c2, rfl, ho2, hb2⟩; have d3 := k0.below hb2; obtain ⟨d31, d32⟩ := d3.one)
  have dd := (d3.set 0 (.slice ao2 1 c2)).cell 0 rfl
  have ho3 : OwN (w2.setCell ⟨w.heap.size, 0, none⟩ (.slice ao2 1 c2)) w.heap.size ao2 1 c2 (fun _ => byteN 17179869184) := by
    refine ownsRow_base (ownsRow_at ho2 fun g' h1 h2 => ?_) (by simp; omega)
    simp only [World.size_alloc] at h1
    rw [Below.heap_setCell _ _ _ _ (by simp; omega)]
  exact bodyPost_ret (by simp [results, Tryd.results33, go_sem, dd]) rfl ⟨ao2, c2, rfl, ho3, (hB.trans (hb2.mono (by simp; omega))).setCell (p := ⟨w.heap.size, 0, none⟩) (Nat.le_refl _) _⟩
set_option maxRecDepth 10000 in
set_option maxHeartbeats 400000 in
theorem one_99 (w : World) : Calls Tryd.prog 33 #[.int .u8 99] w (RetT w 1 (fun _ => byteN 34359738368)) := by
  have HL : Hid (∀ W, Calls Tryd.prog 62 #[.agg #[.int .i64 2, .int .u64 0, .int .u64 34359738368, .int .u64 0, .int .u64 0, .int .i64 0, .int .i64 0, .int .i64 0, .int .i64 0, .bool false]] W (RetT W 1 (fun _ => byteN 34359738368))) := fun W => leafN_byte 34359738368 ▸ rleaf_any (byteN 34359738368) W
  have k0 := (Cl.new w 48 [.slice none 0 0]).alloc (.cells #[.int .i64 2, .int .u64 0, .int .u64 34359738368, .int .u64 0, .int .u64 0, .int .i64 0, .int .i64 0, .int .i64 0, .int .i64 0, .bool false] 82)
  have hB := below2 w (.cells #[.slice none 0 0] 48) (.cells #[.int .i64 2, .int .u64 0, .int .u64 34359738368, .int .u64 0, .int .u64 0, .int .i64 0, .int .i64 0, .int .i64 0, .int .i64 0, .bool false] 82)
  go_enter Tryd.func33, Tryd.ntmps33
  go_wp2_with (go_at_call 62; refine (HL.out _).mono ?_; rintro e w2 ⟨ao2, c2, rfl, ho2, hb2⟩; have d3 := k0.below hb2; obtain ⟨d31, d32⟩ := d3.one)
  have dd := (d3.set 0 (.slice ao2 1 c2)).cell 0 rfl
  have ho3 : OwN (w2.setCell ⟨w.heap.size, 0, none⟩ (.slice ao2 1 c2)) w.heap.size ao2 1 c2 (fun _ => byteN 34359738368) := by
    refine ownsRow_base (ownsRow_at ho2 fun g' h1 h2 => ?_) (by simp; omega)
    simp only [World.size_alloc] at h1
    rw [Below.heap_setCell _ _ _ _ (by simp; omega)]
  exact bodyPost_ret (by simp [results, Tryd.results33, go_sem, dd]) rfl ⟨ao2, c2, rfl, ho3, (hB.trans (hb2.mono (by simp; omega))).setCell (p := ⟨w.heap.size, 0, none⟩) (Nat.le_refl _) _⟩
set_option maxRecDepth 10000 in
set_option maxHeartbeats 400000 in
theorem one_100 (w : World) : Calls Tryd.prog 33 #[.int .u8 100] w (RetT w 1 (fun _ => byteN 68719476736)) := by
  have HL : Hid (∀ W, Calls Tryd.prog 62 #[.agg #[.int .i64 2, .int .u64 0, .int .u64 68719476736, .int .u64 0, .int .u64 0, .int .i64 0, .int .i64 0, .int .i64 0, .int .i64 0, .bool false]] W (RetT W 1 (fun _ => byteN 68719476736))) := fun W => leafN_byte 68719476736 ▸ rleaf_any (byteN 68719476736) W
  have k0 := (Cl.new w 48 [.slice none 0 0]).alloc (.cells #[.int .i64 2, .int .u64 0, .int .u64 68719476736, .int .u64 0, .int .u64 0, .int .i64 0, .int .i64 0, .int .i64 0, .int .i64 0, .bool false] 82)
  have hB := below2 w (.cells #[.slice none 0 0] 48) (.cells #[.int .i64 2, .int .u64 0, .int .u64 68719476736, .int .u64 0, .int .u64 0, .int .i64 0, .int .i64 0, .int .i64 0, .int .i64 0, .bool false] 82)
  go_enter Tryd.func33, Tryd.ntmps33
  go_wp2_with (go_at_call 62; refine (HL.out _).mono ?_; rintro e w2 ⟨ao2, c2, rfl, ho2, hb2⟩; have d3 := k0.below hb2; obtain ⟨d31, d32⟩ := d3.one)
  have dd := (d3.set 0 (.slice ao2 1 c2)).cell 0 rfl
  have ho3 : OwN (w2.setCell ⟨w.heap.size, 0, none⟩ (.slice ao2 1 c2)) w.heap.size ao2 1 c2 (fun _ => byteN 68719476736) := by
    refine ownsRow_base (ownsRow_at ho2 fun g' h1 h2 => ?_) (by simp; omega)
    simp only [World.size_alloc] at h1
    rw [Below.heap_setCell _ _ _ _ (by simp; omega)]
  exact bodyPost_ret (by simp [results, Tryd.results33, go_sem, dd]) rfl ⟨ao2, c2, rfl, ho3, (hB.trans (hb2.mono (by simp; omega))).setCell (p := ⟨w.heap.size, 0, none⟩) (Nat.le_refl _) _⟩
set_option maxRecDepth 10000 in
set_option maxHeartbeats 400000 in
theorem one_101 (w : World) : Calls Tryd.prog 33 #[.int .u8 101] w (RetT w 1 (fun _ => byteN 137438953472)) := by
  have HL : Hid (∀ W, Calls Tryd.prog 62 #[.agg #[.int .i64 2, .int .u64 0, .int .u64 137438953472, .int .u64 0, .int .u64 0, .int .i64 0, .int .i64 0, .int .i64 0, .int .i64 0, .bool false]] W (RetT W 1 (fun _ => byteN 137438953472))) := fun W => leafN_byte 137438953472 ▸ rleaf_any (byteN 137438953472) W
  have k0 := (Cl.new w 48 [.slice none 0 0]).alloc (.cells #[.int .i64 2, .int .u64 0, .int .u64 137438953472, .int .u64 0, .int .u64 0, .int .i64 0, .int .i64 0, .int .i64 0, .int .i64 0, .bool false] 82)
  have hB := below2 w (.cells #[.slice none 0 0] 48) (.cells #[.int .i64 2, .int .u64 0, .int .u64 137438953472, .int .u64 0, .int .u64 0, .int .i64 0, .int .i64 0, .int .i64 0, .int .i64 0, .bool false] 82)
  go_enter Tryd.func33, Tryd.ntmps33
  go_wp2_with (go_at_call 62; refine (HL.out _).mono ?_; rintro e w2 ⟨ao2, c2, rfl, ho2, hb2⟩; have d3 := k0.below hb2; obtain ⟨d31, d32⟩ := d3.one)
  have dd := (d3.set 0 (.slice ao2 1 c2)).cell 0 rfl
  have ho3 : OwN (w2.setCell ⟨w.heap.size, 0, none⟩ (.slice ao2 1 c2)) w.heap.size ao2 1 c2 (fun _ => byteN 137438953472) := by
    refine ownsRow_base (ownsRow_at ho2 fun g' h1 h2 => ?_) (by simp; omega)
    simp only [World.size_alloc] at h1
    rw [Below.heap_setCell _ _ _ _ (by simp; omega)]
  exact bodyPost_ret (by simp [results, Tryd.results33, go_sem, dd]) rfl ⟨ao2, c2, rfl, ho3, (hB.trans (hb2.mono (by simp; omega))).setCell (p := ⟨w.heap.size, 0, none⟩) (Nat.le_refl _) _⟩
theorem f26 : Tryd.prog.fieldsOf 26 = #[{ name := "Byte", type := 5, offset := 0, embedded := false, tag := "", pkgPath := "", byteOffset := 0 }, { name := "Fold", type := 4, offset := 1, embedded := false, tag := "", pkgPath := "", byteOffset := 1 }] := by kernel_rfl
theorem equal26 (x y : Int) (f g : Bool) (w : World) : (Op.equal 26 (.agg #[.int .u8 x, .bool f]) (.agg #[.int .u8 y, .bool g])).run Tryd.prog w = .ok (x == y && f == g) w := by
  unfold Op.equal Op.maxDepth
  rw [run_equalIn_struct w 9999 26 _ _ (by kernel_rfl) (by kernel_rfl), f26]
  have q0 : ∀ (x0 x1 : Value) w, (part 5 #[x0, x1] 0).run Tryd.prog w = .ok x0 w := fun _ _ w => by kernel_rfl
  have q1 : ∀ (x0 x1 : Value) w, (part 4 #[x0, x1] 1).run Tryd.prog w = .ok x1 w := fun _ _ w => by kernel_rfl
  have e3 : ∀ (x y : Int) w, (Op.equalIn 9999 5 (.int .u8 x) (.int .u8 y)).run Tryd.prog w = .ok (x == y) w := fun x y w => by
    rw [run_equalIn_int w 9998 5 _ _ _ _ Tryd.underlying5]
  have e4 : ∀ (x y : Bool) w, (Op.equalIn 9999 4 (.bool x) (.bool y)).run Tryd.prog w = .ok (x == y) w := fun x y w => by
    rw [run_equalIn_bool' w 9998 4 _ _ Tryd.underlying4]
  cases h1 : (x == y)
  · simp [Op.eqFields, q0, q1, e3, e4, h1]
  cases h2 : (f == g)
  · simp [Op.eqFields, q0, q1, e3, e4, h1, h2]
  simp [Op.eqFields, q0, q1, e3, e4, h1, h2]
theorem run_neq26 (x y : Int) (f g : Bool) (w : World) : (Go.binOp BinOp.neq 26 (.agg #[.int .u8 x, .bool f]) (.agg #[.int .u8 y, .bool g])).run Tryd.prog w = .ok (.bool (!(x == y && f == g))) w := by
  have h := equal26 x y f g w
  simp only [binOp]
  simp [h]
/-- Letters that are the same, one by one, up to i. -/
def smL (l k : List (Nat × Bool)) (i : Nat) : Prop := ∀ j, j < i → l[j]? = k[j]?
set_option maxRecDepth 10000 in
set_option maxHeartbeats 2000000 in
theorem rsame_any (a b : Option Addr) (c d : Nat) (l k : List (Nat × Bool)) (w : World) (ha : RdL w a l) (hb : RdL w b k) (hl : (l.length : Int) ≤ 9223372036854775807) (hk : (k.length : Int) ≤ 9223372036854775807) : Calls Tryd.prog 22 #[.slice a l.length c, .slice b k.length d] w (fun e w' => e = .returned (.bool (decide (l = k))) ∧ Below w.heap.size w w') := by
  have hB0 := Below.refl w.heap.size w
  by_cases hlen : l.length = k.length
  · obtain ⟨n, hn⟩ : ∃ n, l.length = n := ⟨_, rfl⟩
    have hkn : k.length = n := by omega
    have HLn : Hid (l.length = n) := hn
    have HKn : Hid (k.length = n) := hkn
    clear hlen
    rw [hn] at hl ⊢
    rw [hkn] at hk ⊢
    clear hn hkn
    have hli : ((n : Int) != (n : Int)) = false := by simp
    go_enter Tryd.func22, Tryd.ntmps22
    go_wp2
    go_loopw [5] (fun i wr => ∃ j : Nat, j ≤ n ∧ i = .int .i64 (j : Nat) ∧ Below w.heap.size w wr ∧ Hid (smL l k j)) (fun i _ => n - (intOf i).toNat)
    case atStart => exact ⟨0, by omega, rfl, hB0, fun j hj => by omega⟩
    case round =>
      obtain ⟨j, hj, rfl, hbr, hs⟩ := hrel
      by_cases hlt : j < n
      · have hji : (j : Int) < (n : Int) := by omega
        obtain ⟨b1, o1, rfl, _, hc1⟩ := ha.below hbr (by rw [HLn.out]; omega)
        obtain ⟨b2, o2, rfl, _, hc2⟩ := hb.below hbr (by rw [HKn.out]; omega)
        obtain ⟨x, hx⟩ : ∃ x, l[j]? = some x := ⟨_, List.getElem?_eq_getElem (by rw [HLn.out]; exact hlt)⟩
        obtain ⟨y, hy⟩ : ∃ y, k[j]? = some y := ⟨_, List.getElem?_eq_getElem (by rw [HKn.out]; exact hlt)⟩
        obtain ⟨p0, p1⟩ := hc1 j x hx
        obtain ⟨q0, q1⟩ := hc2 j y hy
        clear hc1 hc2
        have hne := run_neq26 (x.1 : Nat) (y.1 : Nat) x.2 y.2
        by_cases hxy : x = y
        · have HO : Hid (smL l k (j + 1)) := fun i hi => by
            rcases Nat.lt_or_ge i j with h' | h'
            · exact hs.out i h'
            · obtain rfl : i = j := by omega
              rw [hx, hy, hxy]
          have e : (!((x.1 : Int) == (y.1 : Int) && x.2 == y.2)) = false := by rw [hxy]; simp
          simp only [e] at hne
          clear hx hy hs hxy e
          obtain ⟨x1, x2⟩ := x
          obtain ⟨y1, y2⟩ := y
          dsimp only at *
          go_wp2_with fail
          go_quiet (fail)
          go_wp2
          go_roundw
          all_goals first | exact ⟨j + 1, by omega, by go_num, below_drewN hbr _, HO.out⟩ | (simp [intOf]; omega)
        · have HO : Hid (decide (l = k) = false) := by
            show decide (l = k) = false
            rw [decide_eq_false_iff_not]
            rintro rfl
            rw [hx] at hy
            exact hxy (Option.some.inj hy)
          have e : (!((x.1 : Int) == (y.1 : Int) && x.2 == y.2)) = true := by
            rw [Bool.not_eq_true', Bool.eq_false_iff]
            intro h
            simp only [Bool.and_eq_true, beq_iff_eq] at h
            exact hxy (Prod.ext (by omega) h.2)
          simp only [e] at hne
          clear hx hy hs hxy e
          obtain ⟨x1, x2⟩ := x
          obtain ⟨y1, y2⟩ := y
          dsimp only at *
          go_wp2_with fail
          go_quiet (fail)
          go_wp2
          go_ret
          exact ⟨by rw [HO.out]; rfl, below_drewN hbr _⟩
      · obtain rfl : j = n := by omega
        have HO : Hid (decide (l = k) = true) := by
          show decide (l = k) = true
          rw [decide_eq_true_iff]
          refine List.ext_getElem? fun i => ?_
          rcases Nat.lt_or_ge i j with h' | h'
          · exact hs.out i h'
          · rw [List.getElem?_eq_none (by rw [HLn.out]; exact h'), List.getElem?_eq_none (by rw [HKn.out]; exact h')]
        go_wp2
        go_ret
        exact ⟨by rw [HO.out]; rfl, hbr⟩
  · have hli : ((l.length : Int) != (k.length : Int)) = true := by simp; omega
    have e : decide (l = k) = false := by
      rw [decide_eq_false_iff_not]
      rintro rfl
      exact hlen rfl
    rw [e]
    clear e ha hb hlen
    go_enter Tryd.func22, Tryd.ntmps22
    go_wp2
    go_ret
    exact ⟨rfl, hB0⟩
end Go.Proofs.YthbmfnibgjlkhaaDoor
namespace Go.Proofs.YthbmfnibgjlkhaaDoor
open Go.RowKit K
/-- A tree that is answered. -/
def RetTr (w : World) (t : Tre) (e : Ending) (w' : World) : Prop := ∃ ao cap, e = .returned (.agg #[.slice ao t.size cap]) ∧ RdN w' ao t.size (nodes t) ∧ t.size ≤ cap ∧ Below w.heap.size w w'
/-- Trees one behind the other. -/
def cT (T : Nat → Tre) : Nat → Tre
  | 0 => T 0
  | j + 1 => .two 3 (cT T j) (T (j + 1))
theorem cT_succ (T : Nat → Tre) (j : Nat) : cT T (j + 1) = .two 3 (cT T j) (T (j + 1)) := rfl
theorem slice_from62 (b n cap : Nat) (hn : 1 ≤ n) (hc : 2 ≤ cap) (w : World) : (Instr.slice 62 (.slice (some ⟨b, 0, none⟩) n cap) (some (.int .i64 1)) none none).run Tryd.prog w = .ok (.slice (some ⟨b, 1, none⟩) (n - 1) (cap - 1)) w := by
  have hxn : (1 : Int) ≤ (n : Int) := by omega
  have hcap : ¬ cap = 1 := by omega
  simp [go_sem, Tryd.underlying62, hxn, hcap]
set_option maxRecDepth 10000 in
set_option maxHeartbeats 2000000 in
theorem cat_any (B : Nat) (T : Nat → Tre) (A : Nat → Option Addr) (C : Nat → Nat) (w : World) (hB : B < w.heap.size) (hc : ∀ i, i < 5 → w.cell? ⟨B, i, none⟩ = some (.slice (A i) (T i).size (C i))) (hr : ∀ i, i < 5 → RdN w (A i) (T i).size (nodes (T i))) (hC : ∀ i, i < 5 → (T i).size ≤ C i) (ho : ∀ i, i < 5 → (cT T i).ok = true ∧ (T i).ok = true) (hs : ∀ i, i < 5 → (cT T i).size ≤ 2048 ∧ (T i).size ≤ 2048) : Calls Tryd.prog 32 #[.slice (some ⟨B, 0, none⟩) 5 5] w (RetTr w (cT T 4)) := by
  have hW0 : Below w.heap.size w ((w.alloc (.cells #[.slice none 0 0] 48)).alloc (.cells #[.slice (A 0) (T 0).size (C 0)] 48)) := (below1 w _).alloc (by simp) _
  have kr0 : Cl ((w.alloc (.cells #[.slice none 0 0] 48)).alloc (.cells #[.slice (A 0) (T 0).size (C 0)] 48)) w.heap.size 48 [.slice none 0 0] := (Cl.new w 48 [.slice none 0 0]).alloc _
  have kt0 : Cl ((w.alloc (.cells #[.slice none 0 0] 48)).alloc (.cells #[.slice (A 0) (T 0).size (C 0)] 48)) (w.heap.size + 1) 48 [.slice (A 0) (T 0).size (C 0)] := by
    have := Cl.new (w.alloc (.cells #[.slice none 0 0] 48)) 48 [.slice (A 0) (T 0).size (C 0)]
    simpa only [World.size_alloc] using this
  have c0 : ((w.alloc (.cells #[.slice none 0 0] 48))).cell? ⟨B, 0, none⟩ = some (.slice (A 0) (T 0).size (C 0)) := by
    rw [(below1 w _).cell (p := ⟨B, 0, none⟩) hB]; exact hc 0 (by decide)
  have hsl := slice_from62 B 5 5 (by decide) (by decide)
  have r0 := (hr 0 (by decide)).below hW0
  have HX : Hid (∀ i, i < 5 → ∀ W, Below w.heap.size w W → W.cell? ⟨B, i, none⟩ = some (.slice (A i) (T i).size (C i)) ∧ RdN W (A i) (T i).size (nodes (T i))) := fun i hi W hW => ⟨by rw [hW.cell (p := ⟨B, i, none⟩) hB]; exact hc i hi, (hr i hi).below hW⟩
  have HC : Hid (∀ i, i < 5 → (T i).size ≤ C i) := hC
  have HO : Hid (∀ i, i < 5 → ((cT T i).ok = true ∧ (T i).ok = true) ∧ ((cT T i).size ≤ 2048 ∧ (T i).size ≤ 2048)) := fun i hi => ⟨ho i hi, hs i hi⟩
  have hC0 := hC 0 (by decide)
  clear hc hr hC ho hs
  go_enter Tryd.func32, Tryd.ntmps32
  go_wp2_with fail
  have I0 : ∃ ao cap, Cl ((w.alloc (.cells #[.slice none 0 0] 48)).alloc (.cells #[.slice (A 0) (T 0).size (C 0)] 48)) (w.heap.size + 1) 48 [.slice ao (cT T 0).size cap] ∧ RdN ((w.alloc (.cells #[.slice none 0 0] 48)).alloc (.cells #[.slice (A 0) (T 0).size (C 0)] 48)) ao (cT T 0).size (nodes (cT T 0)) ∧ (cT T 0).size ≤ cap := ⟨_, _, kt0, r0, hC0⟩
  clear kt0 r0 c0 hC0
  generalize (w.alloc (.cells #[.slice none 0 0] 48)).alloc (.cells #[.slice (A 0) (T 0).size (C 0)] 48) = V at *
  go_loopw [12] (fun i wr => ∃ j : Nat, j ≤ 4 ∧ i = .int .i64 (j : Nat) ∧ Below w.heap.size w wr ∧ Cl wr w.heap.size 48 [.slice none 0 0] ∧ ∃ ao cap, Cl wr (w.heap.size + 1) 48 [.slice ao (cT T j).size cap] ∧ RdN wr ao (cT T j).size (nodes (cT T j)) ∧ (cT T j).size ≤ cap) (fun i _ => 4 - (intOf i).toNat)
  case atStart => exact ⟨0, by decide, rfl, hW0, kr0, I0⟩
  case round =>
    obtain ⟨j, hj, rfl, hbr, kr, ao, cap, kt, rt, hcap⟩ := hrel
    clear I0 kr0 hW0
    by_cases hlt : j < 4
    · have hji : (j : Int) < 4 := by omega
      obtain ⟨cj, rj⟩ := HX.out (j + 1) (by omega) wr hbr
      have hCj := HC.out (j + 1) (by omega)
      obtain ⟨⟨o1, o2⟩, s1, s2⟩ := HO.out (j + 1) (by omega)
      obtain ⟨⟨o3, _⟩, s3, _⟩ := HO.out j (by omega)
      have hbA := below1 wr (.cells #[.slice (A (j + 1)) (T (j + 1)).size (C (j + 1))] 48)
      have hJ : Calls Tryd.prog 61 #[.int .i64 3, .agg #[.slice ao (cT T j).size cap], .agg #[.slice (A (j + 1)) (T (j + 1)).size (C (j + 1))]] (wr.alloc (.cells #[.slice (A (j + 1)) (T (j + 1)).size (C (j + 1))] 48)) (RetT (wr.alloc (.cells #[.slice (A (j + 1)) (T (j + 1)).size (C (j + 1))] 48)) (cT T (j + 1)).size (nodes (cT T (j + 1)))) := by
        have := rjoin_yes 3 ao (A (j + 1)) (cT T j).size (T (j + 1)).size cap (C (j + 1)) (nodes (cT T j)) (nodes (T (j + 1))) _ (.inl rfl) (rt.below hbA) (rj.below hbA) (by omega) (by omega) hcap hCj
        rw [snd_nodes _ o3 s3, snd_nodes _ o2 s2] at this
        rw [cT_succ]
        exact this
      have kt1 := kt.below hbA
      have dt := kt1.cell 0 rfl
      have e1 : (1 : Nat) + j = j + 1 := by omega
      have cj' : wr.cell? ⟨B, 1 + j, none⟩ = some (.slice (A (j + 1)) (T (j + 1)).size (C (j + 1))) := by rw [e1]; exact cj
      clear rj cj e1
      have HS : Hid ((cT T (j + 1)).size ≤ 2048) := s1
      clear o1 o2 o3 s1 s2 s3
      generalize (T (j + 1)).size = tn at *
      generalize A (j + 1) = ta at *
      generalize C (j + 1) = tc at *
      go_wp2_with (go_at_call 61; refine hJ.mono ?_; rintro e w2 ⟨a2, c2, rfl, ho2, hb2⟩; have kt2 := kt1.below hb2; obtain ⟨t1, t2⟩ := kt2.one)
      go_roundw
      case rel =>
        have hb3 := (hbr.trans (hbA.mono hbr.size)).trans (hb2.mono (by have := hbr.size; simp; omega))
        have kt3 := kt2.set 0 (.slice a2 (cT T (j + 1)).size c2)
        refine ⟨j + 1, by omega, by go_num, hb3.setCell (p := ⟨w.heap.size + 1, 0, none⟩) (by simp) _, ((kr.below hbA).below hb2).other (by omega) 0 _, a2, c2, ?_, ho2.rd.put kt2 _, ownsRow_cap ho2⟩
        simpa using kt3
      case measure => simp [intOf]; omega
    · obtain rfl : j = 4 := by omega
      have dt := kt.cell 0 rfl
      obtain ⟨r1, r2⟩ := kr.one
      have HR : Hid (RetTr w (cT T 4) (.returned (.agg #[.slice ao (cT T 4).size cap])) (wr.setCell ⟨w.heap.size, 0, none⟩ (.slice ao (cT T 4).size cap))) := ⟨ao, cap, rfl, rt.put kr _, hcap, hbr.setCell (p := ⟨w.heap.size, 0, none⟩) (by simp) _⟩
      have hset := (kr.set 0 (.slice ao (cT T 4).size cap)).cell 0 rfl
      go_wp2
      exact bodyPost_ret (v := .agg #[.slice ao (cT T 4).size cap]) (by simp [results, Tryd.results32, go_sem, hset]) rfl HR.out
theorem ltF_is {P : Nat → Bool} {b : Nat} {f : Bool} (hc : Cn b f) (he : eqC (clP b f) P = true) : ltF P = some (b, f) := by
  have h : LetQ P b f true := .inl ⟨rfl, hc, he⟩
  cases hl : ltF P with
  | none =>
    obtain ⟨_, _, e⟩ := h.uniq (ltF_none hl)
    cases e
  | some l =>
    obtain ⟨e1, e2, _⟩ := h.uniq (ltF_some hl)
    rw [e1, e2]
theorem ltF_no {P : Nat → Bool} (he : ∀ x, x < 256 → P x = false) : ltF P = none := by
  cases hl : ltF P with
  | none => rfl
  | some l =>
    rcases ltF_some hl with ⟨_, hc, h⟩ | ⟨e, _⟩
    · have := (eqC_iff _ _).1 h l.1 hc.1
      rw [he _ hc.1] at this
      simp [clP] at this
    · cases e
/-- ab*cde. -/
def TL : Nat → Tre
  | 0 => .leaf (byteN 8589934592)
  | 1 => .rep (.leaf (byteN 17179869184)) 0 (-1) false
  | 2 => .leaf (byteN 34359738368)
  | 3 => .leaf (byteN 68719476736)
  | _ => .leaf (byteN 137438953472)
def tL : Tre := cT TL 4
theorem tL_ok : ∀ i, i < 5 → (cT TL i).ok = true ∧ (TL i).ok = true := by decide +kernel
theorem tL_size : ∀ i, i < 5 → (cT TL i).size ≤ 2048 ∧ (TL i).size ≤ 2048 := by decide +kernel
theorem ltT_leaf (x : Int) : ltT (.leaf (byteN x)) = ltF (clsP (byteN x)) := rfl
theorem pt_tL : pt 3 tL = [TL 0, TL 1, TL 2, TL 3, TL 4] := rfl
theorem cls_byte (k : Nat) (hk : k < 64) (x : Nat) (hx : x < 256) : clsP (byteN ((2 ^ k : Nat) : Int)) x = (x == 64 + k) := by
  unfold clsP byteN
  dsimp only
  rw [Int.toNat_natCast]
  by_cases h0 : x < 64
  · rw [if_pos h0]
    simp
    omega
  rw [if_neg h0]
  by_cases h1 : x < 128
  · rw [if_pos h1, Nat.testBit_two_pow, Bool.eq_iff_iff]
    simp
    omega
  rw [if_neg h1]
  by_cases h2 : x < 192
  · rw [if_pos h2]
    simp
    omega
  · rw [if_neg h2]
    simp
    omega
theorem lt_byte (k : Nat) (hk : k < 64) (v : Int) (hv : v = ((2 ^ k : Nat) : Int)) : ltT (.leaf (byteN v)) = some (64 + k, false) := by
  subst hv
  refine ltF_is ⟨by omega, fun h => by cases h⟩ ((eqC_iff _ _).2 fun x hx => ?_)
  show _ = clsP (byteN ((2 ^ k : Nat) : Int)) x
  rw [cls_byte k hk x hx]
  simp [clP]
theorem lt0 : ltT (TL 0) = some (97, false) := lt_byte 33 (by decide) _ (by decide)
theorem lt1 : ltT (TL 1) = none := ltF_no fun x _ => by
  show clsP ⟨5, 0, 0, 0, 0, _, 0, _, _, _⟩ x = false
  simp [clsP]
theorem lt2 : ltT (TL 2) = some (99, false) := lt_byte 35 (by decide) _ (by decide)
theorem lt3 : ltT (TL 3) = some (100, false) := lt_byte 36 (by decide) _ (by decide)
theorem lt4 : ltT (TL 4) = some (101, false) := lt_byte 37 (by decide) _ (by decide)
def cde : List (Nat × Bool) := [(99, false), (100, false), (101, false)]
theorem bst_tL : bstY (rsF (nodes tL) tL.size) = some (2, cde) := by
  have ok4 := (tL_ok 4 (by decide)).1
  have s4 := (tL_size 4 (by decide)).1
  have h1 : treeOf (nodes tL) tL.size = some tL := treeOf_nodes tL (nodes tL) rfl ok4 s4 (fun p _ => rfl)
  have h2 : isB (nodes tL) tL.size = true := by
    unfold isB
    rw [h1]
    decide +kernel
  have h3 : snd (nodes tL) tL.size = tL := snd_nodes tL ok4 s4
  unfold rsF
  rw [if_pos h2, h3, pt_tL]
  have p0 : ptL tL 0 = some (97, false) := by simp only [ptL, pt_tL, List.getElem?_cons_zero, Option.bind_some, lt0]
  have p1 : ptL tL 1 = none := by simp only [ptL, pt_tL, List.getElem?_cons_zero, List.getElem?_cons_succ, Option.bind_some, lt1]
  have p2 : ptL tL 2 = some (99, false) := by simp only [ptL, pt_tL, List.getElem?_cons_zero, List.getElem?_cons_succ, Option.bind_some, lt2]
  have p3 : ptL tL 3 = some (100, false) := by simp only [ptL, pt_tL, List.getElem?_cons_zero, List.getElem?_cons_succ, Option.bind_some, lt3]
  have p4 : ptL tL 4 = some (101, false) := by simp only [ptL, pt_tL, List.getElem?_cons_zero, List.getElem?_cons_succ, Option.bind_some, lt4]
  generalize ptL tL = p at *
  simp [runsY, stY, curY, opnY, bstY, bS, cde, p0, p1, p2, p3, p4]
theorem wf_tL : ∀ k, k < tL.size → wfN (nodes tL k) := by
  unfold wfN
  decide +kernel
end Go.Proofs.YthbmfnibgjlkhaaDoor
namespace Go.Proofs.YthbmfnibgjlkhaaDoor
open Go.RowKit K
def pk {α : Type} (x0 x1 x2 x3 x4 : α) : Nat → α
  | 0 => x0
  | 1 => x1
  | 2 => x2
  | 3 => x3
  | _ => x4
/-- The tree of five is put together. -/
theorem cat_tL (a0 a1 a2 a3 a4 : Option Addr) (c0 c1 c2 c3 c4 : Nat) (w : World) (r0 : RdN w a0 1 (nodes (TL 0))) (r1 : RdN w a1 2 (nodes (TL 1))) (r2 : RdN w a2 1 (nodes (TL 2))) (r3 : RdN w a3 1 (nodes (TL 3))) (r4 : RdN w a4 1 (nodes (TL 4))) (h0 : 1 ≤ c0) (h1 : 2 ≤ c1) (h2 : 1 ≤ c2) (h3 : 1 ≤ c3) (h4 : 1 ≤ c4) : Calls Tryd.prog 32 #[.slice (some ⟨w.heap.size, 0, none⟩) 5 5] (w.alloc (.cells #[.slice a0 1 c0, .slice a1 2 c1, .slice a2 1 c2, .slice a3 1 c3, .slice a4 1 c4] 48)) (RetTr (w.alloc (.cells #[.slice a0 1 c0, .slice a1 2 c1, .slice a2 1 c2, .slice a3 1 c3, .slice a4 1 c4] 48)) tL) := by
  have k := Cl.new w 48 [.slice a0 1 c0, .slice a1 2 c1, .slice a2 1 c2, .slice a3 1 c3, .slice a4 1 c4]
  have hb := below1 w (.cells #[.slice a0 1 c0, .slice a1 2 c1, .slice a2 1 c2, .slice a3 1 c3, .slice a4 1 c4] 48)
  have five : ∀ i, i < 5 → i = 0 ∨ i = 1 ∨ i = 2 ∨ i = 3 ∨ i = 4 := fun i h => by omega
  refine cat_any w.heap.size TL (pk a0 a1 a2 a3 a4) (pk c0 c1 c2 c3 c4) _ (by simp) (fun i hi => ?_) (fun i hi => ?_) (fun i hi => ?_) tL_ok tL_size
  · rcases five i hi with rfl | rfl | rfl | rfl | rfl
    · exact k.cell 0 rfl
    · exact k.cell 1 rfl
    · exact k.cell 2 rfl
    · exact k.cell 3 rfl
    · exact k.cell 4 rfl
  · rcases five i hi with rfl | rfl | rfl | rfl | rfl
    · exact r0.below hb
    · exact r1.below hb
    · exact r2.below hb
    · exact r3.below hb
    · exact r4.below hb
  · rcases five i hi with rfl | rfl | rfl | rfl | rfl
    · exact h0
    · exact h1
    · exact h2
    · exact h3
    · exact h4
theorem rd_byte {w : World} {lo : Nat} {ao : Option Addr} {c : Nat} {v : Int} (h : OwN w lo ao 1 c (fun _ => byteN v)) : RdN w ao 1 (nodes (.leaf (byteN v))) ∧ 1 ≤ c :=
  ⟨h.rd.congr fun i hi => by
    obtain rfl : i = 0 := by omega
    rfl, ownsRow_cap h⟩
/-- What live's Best tells. -/
theorem best_tL (a : Option Addr) (c : Nat) (w : World) (hr : RdN w a tL.size (nodes tL)) (hc : tL.size ≤ c) (hT : Tab w) : Calls Tryd.prog 25 #[.agg #[.slice a tL.size c]] w (fun e w' => (∃ g cap, e = .returned (.tuple #[.slice (some ⟨g, 0, none⟩) 3 cap, .int .i64 2, .bool true]) ∧ RdL w' (some ⟨g, 0, none⟩) cde) ∧ Below w.heap.size w w') := by
  have := best_any a tL.size c (nodes tL) w hr (by decide) hc wf_tL hT
  rw [bst_tL] at this
  refine this.mono ?_
  rintro e w' ⟨⟨g, cap, rfl, hr, _, _⟩, hb⟩
  exact ⟨⟨g, cap, rfl, hr⟩, hb⟩
theorem rep_tL (a : Option Addr) (c : Nat) (w : World) (hr : RdN w a 1 (nodes (.leaf (byteN 17179869184)))) (hc : 1 ≤ c) : Calls Tryd.prog 34 #[.agg #[.slice a 1 c], .int .i64 0, .int .i64 (-1), .bool false] w (RetT w 2 (nodes (TL 1))) := by
  have h1 := snd_nodes (.leaf (byteN 17179869184)) (byte_ok _) (by decide)
  have := rrepeat_any a 1 c (nodes (.leaf (byteN 17179869184))) 0 (-1) false w hr (by decide) hc
  change snd (nodes (.leaf (byteN 17179869184))) 1 = _ at h1
  rw [h1] at this
  exact this
set_option maxRecDepth 10000 in
set_option maxHeartbeats 4000000 in
theorem live_any (w : World) (hT : Tab w) : Calls Tryd.prog 7 #[] w (fun e w' => e = .returned (.bool true) ∧ Below w.heap.size w w') := by
  have H1 := one_97
  go_enter Tryd.func7, Tryd.ntmps7
  go_upto_region 2 with (first
    | (go_at_call 25; refine H8.mono ?_; rintro e w8 ⟨⟨g, cg, rfl, rg⟩, b8⟩; clear H8)
    | (go_at_call 32; refine H7.mono ?_; rintro e w7 ⟨a7, c7, rfl, r7, l7, b7⟩; have B7 := (B6.alloc B6.size _).trans (b7.mono (by have := B6.size; simp; omega)); have H8 := best_tL a7 c7 w7 r7 l7 (hT.below B7); clear H7)
    | (go_at_call 33; refine (H6 _).mono ?_; rintro e w6 ⟨a6, c6, rfl, o6, b6⟩; have B6 := B5.trans (b6.mono B5.size); obtain ⟨r6, l6⟩ := rd_byte o6; have H7 := cat_tL a1 a3 a4 a5 a6 c1 c3 c4 c5 c6 w6 ((((r1.below b2).below b3).below b4).below b5 |>.below b6) (((r3.below b4).below b5).below b6) ((r4.below b5).below b6) (r5.below b6) r6 l1 l3 l4 l5 l6; clear H6)
    | (go_at_call 33; refine (H5 _).mono ?_; rintro e w5 ⟨a5, c5, rfl, o5, b5⟩; have B5 := B4.trans (b5.mono B4.size); obtain ⟨r5, l5⟩ := rd_byte o5; have H6 := one_101; clear H5)
    | (go_at_call 33; refine (H4 _).mono ?_; rintro e w4 ⟨a4, c4, rfl, o4, b4⟩; have B4 := B3.trans (b4.mono B3.size); obtain ⟨r4, l4⟩ := rd_byte o4; have H5 := one_100; clear H4)
    | (go_at_call 34; refine H3.mono ?_; rintro e w3 ⟨a3, c3, rfl, o3, b3⟩; have B3 := B2.trans (b3.mono B2.size); have r3 := o3.rd; have l3 := ownsRow_cap o3; have H4 := one_99; clear H3)
    | (go_at_call 33; refine (H2 _).mono ?_; rintro e w2 ⟨a2, c2, rfl, o2, b2⟩; have B2 := B1.trans (b2.mono B1.size); obtain ⟨r2, l2⟩ := rd_byte o2; have H3 := rep_tL a2 c2 w2 r2 l2; clear H2)
    | (go_at_call 33; refine (H1 _).mono ?_; rintro e w1 ⟨a1, c1, rfl, o1, B1⟩; obtain ⟨r1, l1⟩ := rd_byte o1; have H2 := one_98; clear H1))
  have B8 := B7.trans (b8.mono B7.size)
  have hbA := below1 w8 (.cells #[.int .u8 99, .bool false, .int .u8 100, .bool false, .int .u8 101, .bool false] 26)
  have HS : Calls Tryd.prog 22 #[.slice (some ⟨g, 0, none⟩) 3 cg, .slice (some ⟨w8.heap.size, 0, none⟩) 3 3] (w8.alloc (.cells #[.int .u8 99, .bool false, .int .u8 100, .bool false, .int .u8 101, .bool false] 26)) (fun e w' => e = .returned (.bool true) ∧ Below (w8.alloc (.cells #[.int .u8 99, .bool false, .int .u8 100, .bool false, .int .u8 101, .bool false] 26)).heap.size (w8.alloc (.cells #[.int .u8 99, .bool false, .int .u8 100, .bool false, .int .u8 101, .bool false] 26)) w') := by
    have hk : RdL (w8.alloc (.cells #[.int .u8 99, .bool false, .int .u8 100, .bool false, .int .u8 101, .bool false] 26)) (some ⟨w8.heap.size, 0, none⟩) cde := by
      intro _
      have k := Cl.new w8 26 [.int .u8 99, .bool false, .int .u8 100, .bool false, .int .u8 101, .bool false]
      refine ⟨w8.heap.size, 0, rfl, by simp, fun i x hi => ?_⟩
      have hi3 : i < 3 := (List.getElem?_eq_some_iff.1 hi).1
      have : i = 0 ∨ i = 1 ∨ i = 2 := by omega
      rcases this with rfl | rfl | rfl
      · obtain rfl : (99, false) = x := Option.some.inj hi
        exact ⟨k.cell 0 rfl, k.cell 1 rfl⟩
      · obtain rfl : (100, false) = x := Option.some.inj hi
        exact ⟨k.cell 2 rfl, k.cell 3 rfl⟩
      · obtain rfl : (101, false) = x := Option.some.inj hi
        exact ⟨k.cell 4 rfl, k.cell 5 rfl⟩
    have := rsame_any (some ⟨g, 0, none⟩) (some ⟨w8.heap.size, 0, none⟩) cg 3 cde cde _ (rg.below hbA) hk (by decide) (by decide)
    rw [show decide (cde = cde) = true from decide_eq_true rfl] at this
    exact this
  have HB : Hid (∀ W, Below (w8.alloc (.cells #[.int .u8 99, .bool false, .int .u8 100, .bool false, .int .u8 101, .bool false] 26)).heap.size (w8.alloc (.cells #[.int .u8 99, .bool false, .int .u8 100, .bool false, .int .u8 101, .bool false] 26)) W → Below w.heap.size w W) := fun W h => (B8.alloc B8.size _).trans (h.mono (by have := B8.size; simp; omega))
  clear rg r1 r2 r3 r4 r5 r6 r7 o1 o2 o3 o4 o5 o6 b2 b3 b4 b5 b6 b7 b8 B1 B2 B3 B4 B5 B6 B7 B8 l1 l2 l3 l4 l5 l6 l7 hbA hT
  go_wp2_with (go_at_call 22; refine HS.mono ?_; rintro e w9 ⟨rfl, b9⟩)
  go_ret
  exact ⟨rfl, HB.out _ b9⟩
end Go.Proofs.YthbmfnibgjlkhaaDoor
