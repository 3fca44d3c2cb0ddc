/- Tree, of the program and of the reference: the walks. -/
import Derived.Test.YtobgmgpclcfkcaaTtL
import Derived.Test.YtobgmgpclcfkcaaKf
namespace Go.Proofs.Ytobgmgpclcfkcaa
open Go.RowKit Go.Shelf
/-- The tree of a tide. -/
def tdN (a b c d : Nat) : T.Nd := ⟨2, a, b, c, d, 0, 0, 0, 0, false⟩
def tdT (a b c d : Nat) (lo : Int) : T.Tre := .rep (.leaf (tdN a b c d)) lo (-1) false
theorem leafN_td (a b c d : Nat) : T.leafN (tdN a b c d) = tdN a b c d := by simp [T.leafN, tdN]
theorem lf_td (a b c d : Nat) : T.Tre.lf (tdN a b c d) = true := by simp [T.Tre.lf, tdN, T.Nd.eq]
theorem snd_td (a b c d : Nat) (F : Nat → T.Nd) (h : F 0 = tdN a b c d) : T.snd F 1 = .leaf (tdN a b c d) := by
  have h1 : T.scanT F 1 = some [.leaf (tdN a b c d)] := by
    unfold T.scanT
    simp only [T.scanT, h, T.stepT, lf_td, if_true]
    simp [tdN]
  unfold T.snd T.treeOf
  rw [h1]
  rfl
theorem size_td (a b c d : Nat) (lo : Int) : (tdT a b c d lo).size = 2 := rfl
theorem nodes_td0 (a b c d : Nat) (lo : Int) : T.nodes (tdT a b c d lo) 0 = tdN a b c d := rfl
theorem nodes_td1 (a b c d : Nat) (lo : Int) : T.nodes (tdT a b c d lo) 1 = ⟨5, 0, 0, 0, 0, 0, 0, lo, -1, false⟩ := rfl
/-- What Tree answers of a tide that may be. -/
def RetTr (w : World) (F : Nat → T.Nd) (e : Ending) (w' : World) : Prop := ∃ ao cap, e = .returned (.tuple #[.agg #[.slice ao 2 cap], .bool true]) ∧ T.OwN w' w.heap.size ao 2 cap F ∧ Below w.heap.size w w'
set_option maxRecDepth 100000 in
set_option maxHeartbeats 4000000 in
theorem tree_no {a b c d : Nat} {lo : Int} (w : World) (h : okT a b c d lo = false) : Calls Try.prog 24 #[tdV a b c d lo] w fun e w' => e = .returned (.tuple #[.agg #[.slice none 0 0], .bool false]) ∧ Below w.heap.size w w' := by
  have HC := fun W => check_t a b c d lo W
  simp only [h, Bool.false_eq_true, if_false] at HC
  have hB := T.below2 w (tdO a b c d lo) (.cells #[.slice none 0 0] 47)
  have t0 : Cl ((w.alloc (tdO a b c d lo)).alloc (.cells #[.slice none 0 0] 47)) (w.heap.size + 1) 47 [.slice none 0 0] := by
    have := Cl.new (w.alloc (tdO a b c d lo)) 47 [.slice none 0 0]
    rwa [World.size_alloc] at this
  unfold tdO at hB t0
  unfold tdV at *
  go_enter Try.func24, Try.ntmps24
  go_wp2_with (go_at_call 10; refine (HC _).mono ?_; rintro e w1 ⟨rfl, hb1⟩; have t1 := t0.below hb1; have hB1 := hB.trans (hb1.mono hB.size); clear t0 hB hb1; have c0 := t1.cell 0 rfl; have f0 := t1.frozen 0)
  have k0 := (t1.set 0 (.slice none 0 0)).cell 0 rfl
  exact bodyPost_ret (by simp [results, Try.results24, go_sem, k0]) rfl ⟨rfl, hB1.setCell (p := ⟨w.heap.size + 1, 0, none⟩) (by simp) _⟩
set_option maxRecDepth 100000 in
set_option maxHeartbeats 4000000 in
theorem tree_yes {a b c d : Nat} {lo : Int} (w : World) (h : okT a b c d lo = true) : Calls Try.prog 24 #[tdV a b c d lo] w (RetTr w (T.nodes (tdT a b c d lo))) := by
  have HC := fun W => check_t a b c d lo W
  simp only [h, if_true] at HC
  have hB := T.below2 w (tdO a b c d lo) (.cells #[.slice none 0 0] 47)
  have r0 := (TdAt.new w a b c d lo).alloc (.cells #[.slice none 0 0] 47)
  have t0 : Cl ((w.alloc (tdO a b c d lo)).alloc (.cells #[.slice none 0 0] 47)) (w.heap.size + 1) 47 [.slice none 0 0] := by
    have := Cl.new (w.alloc (tdO a b c d lo)) 47 [.slice none 0 0]
    rwa [World.size_alloc] at this
  have HL : Hid (∀ W, Calls Try.prog 40 #[.agg #[.int .i64 2, .int .u64 (a : Nat), .int .u64 (b : Nat), .int .u64 (c : Nat), .int .u64 (d : Nat), .int .i64 0, .int .i64 0, .int .i64 0, .int .i64 0, .bool false]] W (T.RetT W 1 (fun _ => tdN a b c d))) := fun W => by
    have := T.leaf_any (tdN a b c d) W
    rw [leafN_td] at this
    exact this
  have HRp : Hid (∀ W ao cap, T.RdN W ao 1 (fun _ => tdN a b c d) → 1 ≤ cap → Calls Try.prog 39 #[.agg #[.slice ao 1 cap], .int .i64 lo, .int .i64 (-1), .bool false] W (T.RetT W 2 (T.nodes (tdT a b c d lo)))) := fun W ao cap hr hc => by
    have := T.repeat_any ao 1 cap (fun _ => tdN a b c d) lo (-1) false W hr (by decide) hc
    rw [snd_td a b c d _ rfl] at this
    exact this
  unfold tdO at hB r0 t0
  unfold tdV at *
  clear h
  go_enter Try.func24, Try.ntmps24
  go_upto_region 3 with (go_at_call 10; refine (HC _).mono ?_; rintro e w1 ⟨rfl, hb1⟩; have r1 := r0.below hb1; have t1 := t0.below hb1; have hB1 := hB.trans (hb1.mono hB.size); clear r0 t0 hB hb1 HC)
  have R1 := Hid.mk' r1
  have T1 := Hid.mk' t1
  have hsz := hB1.size
  have hz1 : w.heap.size + 1 < w1.heap.size := t1.lt
  have hD : Below w1.heap.size w1 w1.drew := (Below.refl _ _).drew
  go_region_held3 (fun w' => w'.cell? ⟨w.heap.size, 0, none⟩ = some (.int .u64 (a : Nat)) ∧ w'.cell? ⟨w.heap.size, 1, none⟩ = some (.int .u64 (b : Nat)) ∧ w'.cell? ⟨w.heap.size, 2, none⟩ = some (.int .u64 (c : Nat)) ∧ w'.cell? ⟨w.heap.size, 3, none⟩ = some (.int .u64 (d : Nat)) ∧ w'.cell? ⟨w.heap.size, 4, none⟩ = some (.int .i64 lo))
    (first | exact (R1.out.below hD).cells.1 | exact (R1.out.below hW2).cells.1 | exact (R1.out.below hW3).cells.1 | exact ((R1.out.below hW3).other (k := w.heap.size + 1) (by omega) 0 (.slice ta 2 tc)).cells.1)
    (first
      | (go_at_call 40; refine (HL.out _).mono ?_; rintro e w2 ⟨la, lc, rfl, lo1, hb2⟩; have hW2 := hD.trans (hb2.mono hD.size); have hlc := T.ownsRow_cap lo1)
      | (go_at_call 39; refine (HRp.out _ la lc (T.OwN.rd lo1) hlc).mono ?_; rintro e w3 ⟨ta, tc, rfl, to1, hb3⟩; have hW3 := hW2.trans (hb3.mono hW2.size); have t3 := T1.out.below hW3; have c0 := t3.cell 0 rfl; have f0 := t3.frozen 0; have hsz2 := hW2.size))
  go_wp2
  have k0 := (t3.set 0 (.slice ta 2 tc)).cell 0 rfl
  have hB3 := hB1.trans (hW3.mono hB1.size)
  exact bodyPost_ret (v := .tuple #[.agg #[.slice ta 2 tc], .bool true]) (by simp [results, Try.results24, go_sem, k0]) rfl ⟨ta, tc, rfl, T.ownsRow_base (ownsRow_at to1 fun k hk _ => Below.heap_setCell _ _ _ _ (by simp; omega)) (by omega), hB3.setCell (p := ⟨w.heap.size + 1, 0, none⟩) (by simp) _⟩
set_option maxRecDepth 100000 in
set_option maxHeartbeats 4000000 in
theorem rtree_no {a b c d : Nat} {lo : Int} (w : World) (h : okT a b c d lo = false) : Calls Try.prog 25 #[tdV a b c d lo] w fun e w' => e = .returned (.tuple #[.agg #[.slice none 0 0], .bool false]) ∧ Below w.heap.size w w' := by
  have HC := fun W => rcheck_t a b c d lo W
  simp only [h, Bool.false_eq_true, if_false] at HC
  have hB := T.below2 w (tdO a b c d lo) (.cells #[.slice none 0 0] 47)
  have t0 : Cl ((w.alloc (tdO a b c d lo)).alloc (.cells #[.slice none 0 0] 47)) (w.heap.size + 1) 47 [.slice none 0 0] := by
    have := Cl.new (w.alloc (tdO a b c d lo)) 47 [.slice none 0 0]
    rwa [World.size_alloc] at this
  unfold tdO at hB t0
  unfold tdV at *
  go_enter Try.func25, Try.ntmps25
  go_wp2_with (go_at_call 11; refine (HC _).mono ?_; rintro e w1 ⟨rfl, hb1⟩; have t1 := t0.below hb1; have hB1 := hB.trans (hb1.mono hB.size); clear t0 hB hb1; have c0 := t1.cell 0 rfl; have f0 := t1.frozen 0)
  have k0 := (t1.set 0 (.slice none 0 0)).cell 0 rfl
  exact bodyPost_ret (by simp [results, Try.results25, go_sem, k0]) rfl ⟨rfl, hB1.setCell (p := ⟨w.heap.size + 1, 0, none⟩) (by simp) _⟩
set_option maxRecDepth 100000 in
set_option maxHeartbeats 4000000 in
theorem rtree_yes {a b c d : Nat} {lo : Int} (w : World) (h : okT a b c d lo = true) : Calls Try.prog 25 #[tdV a b c d lo] w (RetTr w (T.nodes (tdT a b c d lo))) := by
  have HC := fun W => rcheck_t a b c d lo W
  simp only [h, if_true] at HC
  have hB := T.below2 w (tdO a b c d lo) (.cells #[.slice none 0 0] 47)
  have r0 := (TdAt.new w a b c d lo).alloc (.cells #[.slice none 0 0] 47)
  have t0 : Cl ((w.alloc (tdO a b c d lo)).alloc (.cells #[.slice none 0 0] 47)) (w.heap.size + 1) 47 [.slice none 0 0] := by
    have := Cl.new (w.alloc (tdO a b c d lo)) 47 [.slice none 0 0]
    rwa [World.size_alloc] at this
  have HL : Hid (∀ W, Calls Try.prog 42 #[.agg #[.int .i64 2, .int .u64 (a : Nat), .int .u64 (b : Nat), .int .u64 (c : Nat), .int .u64 (d : Nat), .int .i64 0, .int .i64 0, .int .i64 0, .int .i64 0, .bool false]] W (T.RetT W 1 (fun _ => tdN a b c d))) := fun W => by
    have := T.rleaf_any (tdN a b c d) W
    rw [leafN_td] at this
    exact this
  have HRp : Hid (∀ W ao cap, T.RdN W ao 1 (fun _ => tdN a b c d) → 1 ≤ cap → Calls Try.prog 41 #[.agg #[.slice ao 1 cap], .int .i64 lo, .int .i64 (-1), .bool false] W (T.RetT W 2 (T.nodes (tdT a b c d lo)))) := fun W ao cap hr hc => by
    have := T.rrepeat_any ao 1 cap (fun _ => tdN a b c d) lo (-1) false W hr (by decide) hc
    rw [snd_td a b c d _ rfl] at this
    exact this
  unfold tdO at hB r0 t0
  unfold tdV at *
  clear h
  go_enter Try.func25, Try.ntmps25
  go_upto_region 3 with (go_at_call 11; refine (HC _).mono ?_; rintro e w1 ⟨rfl, hb1⟩; have r1 := r0.below hb1; have t1 := t0.below hb1; have hB1 := hB.trans (hb1.mono hB.size); clear r0 t0 hB hb1 HC)
  have R1 := Hid.mk' r1
  have T1 := Hid.mk' t1
  have hsz := hB1.size
  have hz1 : w.heap.size + 1 < w1.heap.size := t1.lt
  have hD : Below w1.heap.size w1 w1.drew := (Below.refl _ _).drew
  go_region_held3 (fun w' => w'.cell? ⟨w.heap.size, 0, none⟩ = some (.int .u64 (a : Nat)) ∧ w'.cell? ⟨w.heap.size, 1, none⟩ = some (.int .u64 (b : Nat)) ∧ w'.cell? ⟨w.heap.size, 2, none⟩ = some (.int .u64 (c : Nat)) ∧ w'.cell? ⟨w.heap.size, 3, none⟩ = some (.int .u64 (d : Nat)) ∧ w'.cell? ⟨w.heap.size, 4, none⟩ = some (.int .i64 lo))
    (first | exact (R1.out.below hD).cells.1 | exact (R1.out.below hW2).cells.1 | exact (R1.out.below hW3).cells.1 | exact ((R1.out.below hW3).other (k := w.heap.size + 1) (by omega) 0 (.slice ta 2 tc)).cells.1)
    (first
      | (go_at_call 42; refine (HL.out _).mono ?_; rintro e w2 ⟨la, lc, rfl, lo1, hb2⟩; have hW2 := hD.trans (hb2.mono hD.size); have hlc := T.ownsRow_cap lo1)
      | (go_at_call 41; refine (HRp.out _ la lc (T.OwN.rd lo1) hlc).mono ?_; rintro e w3 ⟨ta, tc, rfl, to1, hb3⟩; have hW3 := hW2.trans (hb3.mono hW2.size); have t3 := T1.out.below hW3; have c0 := t3.cell 0 rfl; have f0 := t3.frozen 0; have hsz2 := hW2.size))
  go_wp2
  have k0 := (t3.set 0 (.slice ta 2 tc)).cell 0 rfl
  have hB3 := hB1.trans (hW3.mono hB1.size)
  exact bodyPost_ret (v := .tuple #[.agg #[.slice ta 2 tc], .bool true]) (by simp [results, Try.results25, go_sem, k0]) rfl ⟨ta, tc, rfl, T.ownsRow_base (ownsRow_at to1 fun k hk _ => Below.heap_setCell _ _ _ _ (by simp; omega)) (by omega), hB3.setCell (p := ⟨w.heap.size + 1, 0, none⟩) (by simp) _⟩
end Go.Proofs.Ytobgmgpclcfkcaa
