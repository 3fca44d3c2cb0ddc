/- slices.Concat of two slices of bytes, slices.Grow: the walks. -/
import Derived.Test.YtgololmgdakigaaCb
import Derived.Lib.AppendZeros
import Derived.Laws.AppendOwnNone
namespace Go.Proofs.Ytgololmgdakigaa
open Go.RowKit
theorem b_byte : (Try.prog.info? 5).map (fun i => (i.zero, i.size, i.bytes)) = some (some (.int .u8 0), 1, 1) := by kernel_rfl
theorem info_parts {P : Program} {t : TypeId} {z : Value} {s b : Nat} (h : (P.info? t).map (fun i => (i.zero, i.size, i.bytes)) = some (some z, s, b)) : ∃ i, P.info? t = some i ∧ i.zero = some z ∧ i.size = s ∧ i.bytes = b := by
  obtain ⟨i, hi, h⟩ := Option.map_eq_some_iff.1 h
  simp at h
  exact ⟨i, hi, h.1, h.2.1, h.2.2⟩
theorem addr_add (b o i : Nat) : (⟨b, o, none⟩ : Addr).add i = ⟨b, o + i, none⟩ := by
  by_cases h : i = 0
  · subst h; simp [Addr.add]
  · simp [Addr.add, h]
theorem own_block {W : World} {base e size k : Nat} {v : Value} {xs : List Value} (h : W.ownsRow base e size v k xs) {g : Nat} (hg : v.ownBlock = some g) : base ≤ g ∧ g < W.heap.size ∧ ∃ cur, W.heap[g]? = some (.cells cur e (0, 0)) := by
  rcases h.2 with ⟨hv, _⟩ | ⟨g', cap, cur, hv, hb, hh, _⟩
  · rw [hv] at hg; cases hg
  · rw [hv] at hg
    cases hg
    exact ⟨hb, (Array.getElem?_eq_some_iff.1 hh).1, cur, hh⟩
theorem ownsRow_slice {W : World} {base e size k : Nat} {v : Value} {xs : List Value} (h : W.ownsRow base e size v k xs) : ∃ ao cap, v = .slice ao k cap := by
  rcases h.2 with ⟨h, h0⟩ | ⟨g, cap, cur, h, _⟩
  · exact ⟨none, 0, by rw [h, h0]⟩
  · exact ⟨_, cap, h⟩
/-- n bytes as cells. -/
def bts (f : Nat → Nat) (n : Nat) : List Value := (List.range n).map fun i => Value.int .u8 (f i : Nat)
theorem bts_length (f : Nat → Nat) (n : Nat) : (bts f n).length = n := by simp [bts]
theorem bts_get (f : Nat → Nat) {n i : Nat} (h : i < n) : (bts f n)[i]? = some (.int .u8 (f i : Nat)) := by simp [bts, h]
theorem bts_some {f : Nat → Nat} {n j : Nat} {u : Value} (h : (bts f n)[j]? = some u) : j < n ∧ u = .int .u8 (f j : Nat) := by
  by_cases hj : j < n
  · rw [bts_get f hj] at h; exact ⟨hj, by simpa using h.symm⟩
  · rw [List.getElem?_eq_none (by rw [bts_length]; omega)] at h; simp at h
theorem bts_one (f : Nat → Nat) (n : Nat) : ∀ u ∈ bts f n, u.oneCell' = true := by
  intro u hu
  simp only [bts, List.mem_map] at hu
  obtain ⟨i, _, rfl⟩ := hu
  rfl
theorem run_append_nil0 (w : World) (t ty e : TypeId) (i : TypeInfo) (ht : Try.prog.underlying t = some (.slice e)) (hi : Try.prog.info? e = some i) (b xo : Option Addr) (n cap c : Nat) (hle : n ≤ cap) :
    (Builtin.append_ #[t, t] ty #[.slice b n cap, .slice xo 0 c]).run Try.prog w = .ok (.slice b n cap) w := by
  cases xo <;> cases b <;> simp [Builtin.append_, run_underlying ht, sizeOf, typeInfo, hi, Builtin.lenOf, Builtin.firstCells, loadCells, loadCellsFrom, hle, storeCells]
theorem run_append_rd (w : World) (ty : TypeId) (base : Nat) (v : Value) (m : Nat) (xs : List Value) (hown : w.ownsRow base 5 1 v m xs) (xo : Option Addr) (j c : Nat) (y : Nat → Nat) (hr : Rd w xo j y) (hb : m + j ≤ 4194304) (hbase : base ≤ w.heap.size) :
    ∃ v' w', (Builtin.append_ #[22, 22] ty #[v, .slice xo j c]).run Try.prog w = .ok v' w' ∧ w'.ownsRow base 5 1 v' (m + j) (xs ++ bts y j) ∧ ∀ U, Below base U w → Below base U w' := by
  obtain ⟨i0, hi, hz0, hz1, hz2⟩ := info_parts b_byte
  by_cases h0 : j = 0
  · subst h0
    obtain ⟨ao, cap, rfl⟩ := ownsRow_slice hown
    have hle : m ≤ cap := by
      rcases hown.2 with ⟨hv, h0⟩ | ⟨g, cp, cur, hv, _, _, hc, _⟩
      · omega
      · cases hv; exact hc
    refine ⟨_, w, run_append_nil0 w 22 ty 5 i0 Try.underlying22 hi ao xo m cap c hle, ?_, fun U h => h⟩
    have : bts y 0 = [] := rfl
    rw [this, List.append_nil]
    exact hown
  · obtain ⟨pb, po, rfl, hpb, hpc⟩ := hr.at_ (by omega)
    obtain ⟨v', w', hrun, ho, hg, _⟩ := run_append_own (P := Try.prog) w base 22 ty 5 i0 _ 1 1 Try.underlying22 hi hz0 hz1 hz2 rfl (by decide) v m xs hown ⟨pb, po, none⟩ j c (bts y j) (by rw [bts_length]; omega) (fun i u hu => by
      have hjn := (List.getElem?_eq_some_iff.1 hu).1
      rw [bts_length] at hjn
      rw [bts_get y hjn] at hu
      cases hu
      rw [addr_add]
      exact hpc i hjn) (bts_one y j) (by unfold maxLen; omega) (by omega) hbase
    exact ⟨v', w', hrun, ho, fun U h => h.grown hg hbase fun q hq => (own_block hown hq).1⟩
theorem wpList_append_rd {w : World} {ops : Array Oper} {rest : List Oper} {o : Oper} {a : Act} {Q : Exit → Act → World → Prop}
    (hg : o.guard = none) (s x : Operand) (hop : o.op = Op.call { callee := Callee.builtin Builtin.append, args := #[s, x], argTypes := #[22, 22] })
    (base : Nat) (v : Value) (m : Nat) (xs : List Value) (hs : a.eval s = v) (hown : w.ownsRow base 5 1 v m xs) (xo : Option Addr) (j c : Nat) (y : Nat → Nat) (hx : a.eval x = .slice xo j c) (hr : Rd w xo j y) (hb : m + j ≤ 4194304) (hbase : base ≤ w.heap.size)
    (hK : ∀ v' w', w'.ownsRow base 5 1 v' (m + j) (xs ++ bts y j) → (∀ U, Below base U w → Below base U w') → wpList Try.prog ops Q rest (a.put o.dst v') w') : wpList Try.prog ops Q (o :: rest) a w := by
  refine wpList_plain hg fun K hK' => ?_
  obtain ⟨v', w', hrun, h1, h2⟩ := run_append_rd w o.type base v m xs hown xo j c y hr hb hbase
  unfold Oper.wp
  simp [execOp, hop, resolve, invoke, builtin, hs, hx, hrun, Result.andThen]
  exact hK' _ _ (hK v' w' h1 h2)
theorem rd_row {B : Nat} {w : World} {ao : Option Addr} {n cap : Nat} {f : Nat → Nat} (hs : ∀ i, i < n → f i < 256) (h : w.ownsRow B 5 1 (.slice ao n cap) n (bts f n)) : Rd w ao n f := by
  rcases h.2 with ⟨e, h0⟩ | ⟨g, c, cur, h', hbg, hg, hnc, _, hsz, htake⟩
  · exact ⟨hs, fun hl => by omega⟩
  · simp only [Value.slice.injEq] at h'
    obtain ⟨rfl, _, rfl⟩ := h'
    refine ⟨hs, fun _ => ⟨g, 0, rfl, (Array.getElem?_eq_some_iff.1 hg).1, fun i hi => ?_⟩⟩
    rw [cell_of_row w g (0 + i) cur 5 (0, 0) hg, Nat.zero_add]
    have e : cur.toList[i]? = (bts f n)[i]? := by rw [← htake, List.getElem?_take, if_pos (by omega)]
    rw [← Array.getElem?_toList, e, bts_get f hi]
/-- One text behind another. -/
def cat2 (f : Nat → Nat) (n : Nat) (g : Nat → Nat) (i : Nat) : Nat := if i < n then f i else g (i - n)
theorem bts_cat (f g : Nat → Nat) (n m : Nat) : bts f n ++ bts g m = bts (cat2 f n g) (n + m) := by
  apply List.ext_getElem?
  intro i
  by_cases h : i < n
  · rw [List.getElem?_append_left (by rw [bts_length]; exact h), bts_get f h, bts_get _ (by omega)]
    simp [cat2, h]
  · rw [List.getElem?_append_right (by rw [bts_length]; omega), bts_length]
    by_cases h2 : i < n + m
    · rw [bts_get g (by omega), bts_get _ h2]
      simp [cat2, h]
    · rw [List.getElem?_eq_none (by rw [bts_length]; omega), List.getElem?_eq_none (by rw [bts_length]; omega)]
set_option maxRecDepth 10000 in
set_option maxHeartbeats 400000 in
theorem grow_any (n : Nat) (w : World) (hn : (n : Int) ≤ 4194304) : Calls Try.prog 30 #[.slice none 0 0, .int .i64 (n : Nat)] w fun e w' => ∃ v, e = .returned v ∧ w'.ownsRow w.heap.size 5 1 v 0 [] ∧ Below w.heap.size w w' := by
  by_cases hz : n = 0
  · subst hz
    go_enter Try.func30, Try.ntmps30
    go_wp2
    go_ret
    exact ⟨_, rfl, World.ownsRow_nil _ _ _ _, Below.refl _ _⟩
  have h0 : 0 < n := by omega
  obtain ⟨i0, hi, hz0, hz1, hz2⟩ := info_parts b_byte
  have hrun := Lib.run_append_nil_zeros (P := Try.prog) w 22 3 22 5 i0 _ .i64 .i64 Try.underlying22 Try.underlying3 hi hz0 n h0 (by omega) (by omega) (by rw [hz2]; omega)
  have hge := grownCap_ge w n 0 5
  have hle := grownCap_le_maxLen w n 0 5 (by unfold maxLen; omega)
  have ho := World.ownsRow_made (base := w.heap.size) (e := 5) (size := 1) w.drew (Builtin.zeroCells #[.int .u8 0] n ++ Builtin.zeroCells #[.int .u8 0] (grownCap w n 0 5 - n)) (grownCap w n 0 5) (Nat.le_refl _) hle (by
    rw [Array.size_append, size_zeroCells, size_zeroCells]
    show n * 1 + (grownCap w n 0 5 - n) * 1 = _
    omega)
  have hb : Below w.heap.size w (w.drew.alloc (.cells (Builtin.zeroCells #[.int .u8 0] n ++ Builtin.zeroCells #[.int .u8 0] (grownCap w n 0 5 - n)) 5)) := ((Below.refl _ _).drew).alloc (Nat.le_refl _) _
  have HR : Hid (∀ (e : Ending) W, e = .returned (.slice (some ⟨w.heap.size, 0, none⟩) 0 (grownCap w n 0 5)) → W = (w.drew.alloc (.cells (Builtin.zeroCells #[.int .u8 0] n ++ Builtin.zeroCells #[.int .u8 0] (grownCap w n 0 5 - n)) 5)) → ∃ v, e = .returned v ∧ W.ownsRow w.heap.size 5 1 v 0 [] ∧ Below w.heap.size w W) := fun e W h1 h2 => ⟨_, h1, by subst h2; exact ho, by subst h2; exact hb⟩
  simp only [Value.cells] at hrun
  generalize hW : (w.drew.alloc (.cells (Builtin.zeroCells #[.int .u8 0] n ++ Builtin.zeroCells #[.int .u8 0] (grownCap w n 0 5 - n)) 5)) = W at *
  generalize grownCap w n 0 5 = c at *
  have hc0 : 0 < c := by omega
  have hc1 : ¬ c = 0 := by omega
  have hg : (n : Int) > 0 := by omega
  clear ho hb hW hz0 hz1 hz2 hi
  go_enter Try.func30, Try.ntmps30
  go_wp2_with (at_builtin; refine Lib.wpList_append_run _ rfl _ _ _ _ rfl _ _ rfl rfl _ _ hrun ?_)
  go_ret
  exact HR.out _ _ rfl rfl
set_option maxRecDepth 10000 in
set_option maxHeartbeats 1000000 in
theorem concat_two (b : Nat) (ao bo : Option Addr) (n m ca cb : Nat) (f g : Nat → Nat) (w : World) (hb : b < w.heap.size) (hc0 : w.cell? ⟨b, 0, none⟩ = some (.slice ao n ca)) (hc1 : w.cell? ⟨b, 1, none⟩ = some (.slice bo m cb)) (hf : Rd w ao n f) (hg : Rd w bo m g) (hn : n ≤ 1048576) (hm : m ≤ 1048576) :
    Calls Try.prog 20 #[.slice (some ⟨b, 0, none⟩) 2 2] w fun e w' => ∃ ao cap, e = .returned (.slice ao (n + m) cap) ∧ w'.ownsRow w.heap.size 5 1 (.slice ao (n + m) cap) (n + m) (bts (cat2 f n g) (n + m)) ∧ Below w.heap.size w w' := by
  have HG := grow_any (n + m) w (by omega)
  rw [show ((n + m : Nat) : Int) = (n : Int) + m by omega] at HG
  go_enter Try.func20, Try.ntmps20
  go_wp2_with fail
  go_loopw [3, 11] (fun s i wr => wr = w ∧ ((s = .int .i64 0 ∧ i = .int .i64 0) ∨ (s = .int .i64 (n : Nat) ∧ i = .int .i64 1) ∨ (s = .int .i64 ((n : Int) + m) ∧ i = .int .i64 2))) (fun _ i _ => 2 - (intOf i).toNat)
  case atStart => exact ⟨rfl, .inl ⟨rfl, rfl⟩⟩
  case round =>
    obtain ⟨hw, hrel⟩ := hrel
    have hw' := hw.symm
    clear hw
    subst hw'
    rcases hrel with ⟨rfl, rfl⟩ | ⟨rfl, rfl⟩ | ⟨rfl, rfl⟩
    · clear HG
      go_wp2
      go_roundw
      case rel => exact ⟨trivial, .inr (.inl ⟨rfl, rfl⟩)⟩
      case measure => decide
    · have hws : IntKind.i64.wrap ((n : Int) + m) = (n : Int) + m := by rw [IntKind.wrap_i64]; omega
      have hns : ¬ ((n : Int) + m < 0) := by omega
      clear HG
      go_wp2
      go_roundw
      case rel => exact ⟨trivial, .inr (.inr ⟨rfl, rfl⟩)⟩
      case measure => decide
    · go_wp2_with (go_at_call 30; refine HG.mono ?_; rintro e w1 ⟨v1, rfl, ho, hb1⟩)
      clear HG
      go_loopw [6, 27] (fun v i wq => ∃ k : Nat, i = .int .i64 (k : Nat) ∧ ((k = 0 ∧ wq.ownsRow w.heap.size 5 1 v 0 []) ∨ (k = 1 ∧ wq.ownsRow w.heap.size 5 1 v n (bts f n)) ∨ (k = 2 ∧ wq.ownsRow w.heap.size 5 1 v (n + m) (bts f n ++ bts g m))) ∧ Below w.heap.size w wq) (fun _ i _ => 2 - (intOf i).toNat)
      case atStart => exact ⟨0, rfl, .inl ⟨rfl, ho⟩, hb1⟩
      case round =>
        obtain ⟨k, rfl, hk, hb2⟩ := hrel
        clear ho hb1
        have hcc0 : wr.cell? ⟨b, 0, none⟩ = some (.slice ao n ca) := by rw [hb2.cell (p := ⟨b, 0, none⟩) hb]; exact hc0
        have hcc1 : wr.cell? ⟨b, 1, none⟩ = some (.slice bo m cb) := by rw [hb2.cell (p := ⟨b, 1, none⟩) hb]; exact hc1
        have HB : Hid (Below w.heap.size w wr) := hb2
        have hsz := hb2.size
        clear hc0 hc1
        rcases hk with ⟨rfl, ho⟩ | ⟨rfl, ho⟩ | ⟨rfl, ho⟩
        · have hfr := hf.below hb2
          clear hb2
          go_wp2_with (at_builtin; refine wpList_append_rd rfl _ _ rfl w.heap.size _ 0 [] rfl ho ao n ca f rfl hfr (by omega) hsz ?_; intro v' w2 hown hbel; have hbb := hbel w HB.out; rw [List.nil_append, Nat.zero_add] at hown)
          go_roundw
          case rel => exact ⟨1, rfl, .inr (.inl ⟨rfl, hown⟩), hbb⟩
          case measure => decide
        · have hgr := hg.below hb2
          clear hb2
          go_wp2_with (at_builtin; refine wpList_append_rd rfl _ _ rfl w.heap.size _ n (bts f n) rfl ho bo m cb g rfl hgr (by omega) hsz ?_; intro v' w2 hown hbel; have hbb := hbel w HB.out)
          go_roundw
          case rel => exact ⟨2, rfl, .inr (.inr ⟨rfl, hown⟩), hbb⟩
          case measure => decide
        · obtain ⟨av, cv, rfl⟩ := ownsRow_slice ho
          rw [bts_cat] at ho
          have HR : Hid (∃ ao cap, Ending.returned (.slice av (n + m) cv) = .returned (.slice ao (n + m) cap) ∧ wr.ownsRow w.heap.size 5 1 (.slice ao (n + m) cap) (n + m) (bts (cat2 f n g) (n + m)) ∧ Below w.heap.size w wr) := ⟨av, cv, rfl, ho, hb2⟩
          clear ho hb2
          go_wp2
          go_ret
          exact HR.out
end Go.Proofs.Ytgololmgdakigaa
