/- ring.Ends: the walk. -/
import Derived.Test.YtehlmjjdegmnaaaDoorEb
namespace Go.Proofs.YtehlmjjdegmnaaaDoor
open Go.RowKit Go.Shelf
set_option maxRecDepth 100000 in
set_option maxHeartbeats 20000000 in
theorem ends_mk {a b c d a' b' c' d' : Nat} {lo hi lo' hi' : Int} (w : World) (zo : Option Addr) (l lc : Nat) (z : Nat → Int) (ao : Option Addr) (n cap : Nat) (t : Nat → Nat)
    (HS : ∀ w, Calls Tryd.prog 24 #[rgV a b c d lo hi] w fun e w' => e = .returned (rgV a' b' c' d' lo' hi') ∧ Below w.heap.size w w')
    (hz : RdI w zo l z) (hl : (l : Int) ≤ 9223372036854775807) (ht : RdB w ao n t) (hn : n ≤ 1000) (hnil : (ao = none ∧ n = 0 ∧ cap = 0) ∨ ∃ a, ao = some a) :
    Calls Tryd.prog 39 #[rgV a b c d lo hi, .slice zo l lc, .slice ao n cap] w (RetEn w a' b' c' d' lo' hi' n (among z l) t) := by
  have hB0 := below_two w (.cells #[.int .u64 (a : Nat), .int .u64 (b : Nat), .int .u64 (c : Nat), .int .u64 (d : Nat), .int .i64 lo, .int .i64 hi] 26) (.cells #[.slice ao n cap] 30)
  have r0 := (RgAt.new w a b c d lo hi).below ((Below.refl _ _).alloc (Nat.le_refl _) (.cells #[.slice ao n cap] 30))
  have k0 := Cl.new (w.alloc (.cells #[.int .u64 (a : Nat), .int .u64 (b : Nat), .int .u64 (c : Nat), .int .u64 (d : Nat), .int .i64 lo, .int .i64 hi] 26)) 30 [.slice ao n cap]
  rw [World.size_alloc] at k0
  have HS0 := HS ((w.alloc (.cells #[.int .u64 (a : Nat), .int .u64 (b : Nat), .int .u64 (c : Nat), .int .u64 (d : Nat), .int .i64 lo, .int .i64 hi] 26)).alloc (.cells #[.slice ao n cap] 30))
  clear HS
  unfold rgV at HS0 ⊢
  go_enter Tryd.func39, Tryd.ntmps39
  go_wp2_with (go_at_call 24; refine HS0.mono ?_; rintro e w1 ⟨rfl, hb⟩; have hB1 := hB0.trans (hb.mono (by simp; omega)); have r1 := r0.below hb; have k1 := k0.below hb; clear hb HS0 r0 k0 hB0; obtain ⟨fc, f0, f1, f2, f3, f4, f5⟩ := r1.cells)
  have r2 := r1.put (a' := a') (b' := b') (c' := c') (d' := d') (lo' := lo') (hi' := hi')
  have k2 := k1.putR (p := w.heap.size) (a := a') (b := b') (c := c') (d := d') (lo := lo') (hi := hi') (by omega)
  have hB2 := below_putR (p := w.heap.size) (a := a') (b := b') (c := c') (d := d') (lo := lo') (hi := hi') hB1 (Nat.le_refl _)
  have hz2 := hz.below hB2
  have ht2 := ht.below hB2
  show Code.wp Tryd.prog _ _ _ (putR w1 w.heap.size a' b' c' d' lo' hi')
  generalize putR w1 w.heap.size a' b' c' d' lo' hi' = W at *
  clear fc r1 k1 hB1 f0 f1 f2 f3 f4 f5 hz ht w1
  have hlt : w.heap.size + 1 < W.heap.size := k2.lt
  have c1 := k2.cell 0 rfl
  have c2 := (k2.alloc (.cells #[.slice none 0 0] 67)).cell 0 rfl
  have HK : Hid (Cl W (w.heap.size + 1) 30 [.slice ao n cap]) := k2
  have HR : Hid (RgAt W w.heap.size a' b' c' d' lo' hi') := r2
  clear k2 r2
  have hmf : ∀ (fn : Fn) (first cap : Array Value) (w : World), (Instr.makeFunc fn first cap).run Tryd.prog w = .ok (.func fn first cap) w := fun _ _ _ _ => rfl
  go_region_with (first
    | (go_at_call 54; refine (marked_in (W := W) ?_ zo l lc n z hz2 hl (by omega)).mono ?_
       · repeat (first | exact Below.refl _ _ | refine Below.drew ?_ | refine Below.alloc ?_ (by simp) _)
       rintro e w3 ⟨g, rfl, hg, hgV, hb3, hbW3, hgW⟩
       have c3 := (HK.out.below hbW3).cell 0 rfl
       have c3a := ((HK.out.below hbW3).alloc (.cells #[.slice none 0 0] 67)).cell 0 rfl
       try (have kb3 : Cl w3 W.heap.size 67 [.slice none 0 0] := Cl.below (by exact Cl.new W 67 _) hb3)
       clear hb3 hgV)
    | (go_at_call 55; refine (clone_in (W := W) ?_ ao n cap t ht2 (by omega) hnil).mono ?_
       · repeat (first | exact Below.refl _ _ | exact hbW3 | refine Below.drew ?_ | refine Below.alloc ?_ (by have := hbW3.size; first | omega | (simp; omega)) _)
       rintro e w4 ⟨ao4, cap4, rfl, ho4, hq4, hb4, hbW4⟩
       have hk4 := (HK.out.below hbW4).frozen 0
       have c4 := (HK.out.below hbW4).cell 0 rfl
       have hk4a := fun o => ((HK.out.below hbW4).alloc o).frozen 0
       have c4a := fun o => ((HK.out.below hbW4).alloc o).cell 0 rfl
       have hz4 := hbW4.size
       have hn4 : w4.heap.size ≠ w.heap.size + 1 := by omega
       have hn4' : w3.heap.size ≠ w.heap.size + 1 := by have := hbW3.size; omega
       have hn4'' : W.heap.size ≠ w.heap.size + 1 := by omega
       have hm4 := hn4.symm
       have hm4' := hn4'.symm
       have hm4'' := hn4''.symm
       have g4 : Cl w4 g 4 (bls (among z l) (n + 1)) := by first | exact hg.below hb4 | exact (hg.alloc _).below hb4
       try (have kb4 := kb3.below hb4; have fb4 := kb4.frozen 0; have cb4 := kb4.cell 0 rfl)
       try (have kb4 := (Cl.new w3 67 [.slice none 0 0]).below hb4; have fb4 := kb4.frozen 0; have cb4 := kb4.cell 0 rfl)
       clear hb4 c3 c3a))
  all_goals go_wp2
  all_goals go_ret
  all_goals first
    | exact en_finA hB2 hlt hbW4 HK.out HR.out g4 hgW ho4 (fun q hq => (hq4 q hq).2.1)
    | exact en_finB hB2 hlt hbW4 HK.out HR.out g4 hgW ho4 (fun q hq => ⟨(hq4 q hq).2.1, by have := (hq4 q hq).1; have := kb3.lt; omega⟩) kb4 (Nat.le_refl _)
    | exact en_finB hB2 hlt hbW4 HK.out HR.out g4 hgW ho4 (fun q hq => ⟨(hq4 q hq).2.1, by have := (hq4 q hq).1; simp at this; omega⟩) kb4 hbW3.size
end Go.Proofs.YtehlmjjdegmnaaaDoor
