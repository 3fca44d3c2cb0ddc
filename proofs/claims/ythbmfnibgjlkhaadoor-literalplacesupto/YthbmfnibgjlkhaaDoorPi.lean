/- inBothCases: the walk. -/
import Derived.Test.YthbmfnibgjlkhaaDoorGPcPdPe
import Derived.Test.YthbmfnibgjlkhaaDoorLd
import Derived.Test.YthbmfnibgjlkhaaDoorKb
import Derived.Deep.DeepCutAuto
import Derived.Deep.RegionHeld3
namespace Go.Proofs.YthbmfnibgjlkhaaDoor
open Go.RowKit Go.Shelf K
/-- Whether a letter takes a small letter and the great one. -/
def fol (x : Nat × Bool) : Bool := x.2 && smB x.1
/-- What the first k letters that fold take. -/
def boN (l : List (Nat × Bool)) : Nat → Nat → Bool
  | 0 => fun _ => false
  | k + 1 => fun x => boN l k x || (match l[k]? with | some y => fol y && clP y.1 y.2 x | none => false)
theorem boN_yes {l : List (Nat × Bool)} {k : Nat} {y : Nat × Bool} (h : l[k]? = some y) (hf : fol y = true) : boN l (k + 1) = fun x => boN l k x || clP y.1 y.2 x := by
  funext x
  simp only [boN, h, hf, Bool.true_and]
theorem boN_no {l : List (Nat × Bool)} {k : Nat} {y : Nat × Bool} (h : l[k]? = some y) (hf : fol y = false) : boN l (k + 1) = boN l k := by
  funext x
  simp only [boN, h, hf, Bool.false_and, Bool.or_false]
theorem K.Way2.below {w wr w' : World} {p q r s : Nat} (h : K.Way2 w p q r s wr) (hb : Below wr.heap.size wr w') : K.Way2 w p q r s w' := by
  obtain ⟨hx, ⟨a, b, c, d, hy⟩, hB⟩ := h
  exact ⟨hx.below hb, ⟨a, b, c, d, hy.below hb⟩, hB.trans (hb.mono hB.size)⟩
theorem union_two {P Q : Nat → Bool} {p q r s e f g h : Nat} (hP : C4 P p q r s) (hQ : C4 Q e f g h) (W : World) : Calls Tryd.prog 89 #[.slice (some ⟨W.heap.size, 0, none⟩) 2 2] (W.alloc (.cells #[.int .u64 (p : Nat), .int .u64 (q : Nat), .int .u64 (r : Nat), .int .u64 (s : Nat), .int .u64 (e : Nat), .int .u64 (f : Nat), .int .u64 (g : Nat), .int .u64 (h : Nat)] 24)) (RetC (W.alloc (.cells #[.int .u64 (p : Nat), .int .u64 (q : Nat), .int .u64 (r : Nat), .int .u64 (s : Nat), .int .u64 (e : Nat), .int .u64 (f : Nat), .int .u64 (g : Nat), .int .u64 (h : Nat)] 24)) (fun x => P x || Q x)) := by
  have k0 := Cl.new W 24 [.int .u64 (p : Nat), .int .u64 (q : Nat), .int .u64 (r : Nat), .int .u64 (s : Nat), .int .u64 (e : Nat), .int .u64 (f : Nat), .int .u64 (g : Nat), .int .u64 (h : Nat)]
  have := union_any (some ⟨W.heap.size, 0, none⟩) 2 2 (fun i j => ([p, q, r, s, e, f, g, h].getD (i * 4 + j) 0)) (fun i => if i = 0 then P else Q) _ ⟨fun _ => ⟨W.heap.size, 0, rfl, k0.lt, fun i hi j hj => by
    have hi2 : i = 0 ∨ i = 1 := by omega
    have hj4 : j = 0 ∨ j = 1 ∨ j = 2 ∨ j = 3 := by omega
    rcases hi2 with rfl | rfl <;> rcases hj4 with rfl | rfl | rfl | rfl <;> exact k0.cell _ rfl⟩⟩ (fun i hi => by
    have hi2 : i = 0 ∨ i = 1 := by omega
    rcases hi2 with rfl | rfl
    · exact hP
    · exact hQ) (by decide)
  have e : unN (fun i => if i = 0 then P else Q) 2 = fun x => P x || Q x := by
    funext x
    simp [unN]
  rw [e] at this
  exact this
set_option maxRecDepth 10000 in
set_option maxHeartbeats 2000000 in
theorem inBoth_any (ao : Option Addr) (n cap : Nat) (l : List (Nat × Bool)) (w : World) (hr : RdL w ao l) (hL : l.length = n) (hm : (n : Int) ≤ 9223372036854775807) (hb : ∀ x ∈ l, x.1 < 256) : Calls Tryd.prog 70 #[.slice ao n cap] w (RetC w (boN l n)) := by
  have hW0 : K.Way w (boN l 0) _ := K.Way.start w
  have HL : Hid (l.length = n) := hL
  clear hL
  go_enter Tryd.func70, Tryd.ntmps70
  go_wp2
  go_loopw [8] (fun i wr => ∃ k : Nat, k ≤ n ∧ i = .int .i64 (k : Nat) ∧ K.Way w (boN l k) wr) (fun i _ => n - (intOf i).toNat)
  case atStart => exact ⟨0, Nat.zero_le _, rfl, hW0⟩
  case round =>
    obtain ⟨k, hk, rfl, hW⟩ := hrel
    clear hW0
    obtain ⟨a, b, c, d, h4, hW2⟩ := K.Way2.of hW
    by_cases hlt : k < n
    · have hki : (k : Int) < (n : Int) := by omega
      obtain ⟨bb, off, rfl, hlb, hc⟩ := hr.below hW2.bel (by rw [HL.out]; omega)
      obtain ⟨x, hx⟩ : ∃ x, l[k]? = some x := ⟨_, List.getElem?_eq_getElem (by rw [HL.out]; exact hlt)⟩
      obtain ⟨p0, p1⟩ := hc k x hx
      have hx256 : x.1 < 256 := hb x (List.mem_of_getElem? hx)
      have HF : Hid (∀ W : World, Calls Tryd.prog 37 #[.agg #[.int .u8 (x.1 : Nat), .bool x.2]] W fun e w' => e = .returned (.bool (fol x)) ∧ Below W.heap.size W w') := fun W => folds_any x.1 x.2 W hx256
      have HC : Hid (∀ W : World, Calls Tryd.prog 10 #[.agg #[.int .u8 (x.1 : Nat), .bool x.2]] W (RetC W (clP x.1 x.2))) := fun W => class_any x.1 x.2 W hx256
      have V1 := hW2.alloc (.cells #[.int .u8 (x.1 : Nat), .bool x.2] 26)
      have S1 := Cl.new wr 26 [.int .u8 (x.1 : Nat), .bool x.2]
      obtain ⟨s0, s1⟩ := S1.two.1
      cases hfx : fol x with
      | false =>
        have HX : Hid (∀ W, Below (wr.alloc (.cells #[.int .u8 (x.1 : Nat), .bool x.2] 26)).heap.size (wr.alloc (.cells #[.int .u8 (x.1 : Nat), .bool x.2] 26)) W → K.Way w (boN l (k + 1)) W) := fun W h => by
          rw [boN_no hx hfx]
          exact (V1.below h).way h4
        rw [hfx] at HF
        obtain ⟨x1, x2⟩ := x
        dsimp only at *
        clear hc hr hb hx hW hW2 V1 S1 HC hfx h4
        go_wp2_with (go_at_call 37; refine (HF.out _).mono ?_; rintro e w3 ⟨rfl, hb3⟩)
        go_roundw
        case rel => exact ⟨k + 1, hlt, by go_num, HX.out _ hb3⟩
        case measure => simp [intOf]; omega
      | true =>
        have HX : Hid (∀ (W : World) (e f g h : Nat), K.Way2 w a b c d W → C4 (fun y => boN l k y || clP x.1 x.2 y) e f g h → K.Way w (boN l (k + 1)) (put4 W (w.heap.size + 1) (.int .u64 (e : Nat)) (.int .u64 (f : Nat)) (.int .u64 (g : Nat)) (.int .u64 (h : Nat)))) := fun W e f g h hV hC => by
          rw [boN_yes hx hfx]
          obtain ⟨hx', ⟨a', b', c', d', hy⟩, hB⟩ := hV
          exact ⟨⟨e, f, g, h, hC, hx'.set _ _ _ _⟩, ⟨a', b', c', d', hy.others (by omega) _ _ _ _⟩, below_put4 hB (by omega) _ _ _ _⟩
        have HU : Hid (∀ (W : World) (e f g h : Nat), C4 (clP x.1 x.2) e f g h → Calls Tryd.prog 89 #[.slice (some ⟨W.heap.size, 0, none⟩) 2 2] (W.alloc (.cells #[.int .u64 (a : Nat), .int .u64 (b : Nat), .int .u64 (c : Nat), .int .u64 (d : Nat), .int .u64 (e : Nat), .int .u64 (f : Nat), .int .u64 (g : Nat), .int .u64 (h : Nat)] 24)) (RetC (W.alloc (.cells #[.int .u64 (a : Nat), .int .u64 (b : Nat), .int .u64 (c : Nat), .int .u64 (d : Nat), .int .u64 (e : Nat), .int .u64 (f : Nat), .int .u64 (g : Nat), .int .u64 (h : Nat)] 24)) (fun y => boN l k y || clP x.1 x.2 y))) := fun W e f g h hC => union_two h4 hC W
        rw [hfx] at HF
        obtain ⟨x1, x2⟩ := x
        dsimp only at *
        clear hc hr hb hx hW hW2 hfx h4
        go_wp2_with (go_at_call 37; refine (HF.out _).mono ?_; rintro e w3 ⟨rfl, hb3⟩)
        have V2 := (V1.below hb3)
        have S2 := S1.below hb3
        have V3 : K.Way2 w a b c d w3.drew := ⟨V2.ex.drew, (by obtain ⟨a', b', c', d', hy⟩ := V2.res; exact ⟨a', b', c', d', hy.drew⟩), V2.bel.drew⟩
        obtain ⟨t0, t1⟩ := S2.two.1
        have S3 := S2.drew
        obtain ⟨t0', t1'⟩ := S3.two.1
        obtain ⟨c0, c1, c2, c3, f0, f1, f2, f3⟩ := V3.ex.cells
        obtain ⟨g0, g1, g2, g3, _⟩ := V2.ex.cells
        clear s0 s1 V1 S1 hb3 p0 p1 V2 S2
        go_region_with (first | (go_at_call 10; refine (HC.out _).mono ?_; rintro e w4 ⟨⟨p, q, r, s, rfl, h4⟩, hb4⟩; have V4 := V3.below hb4; have S4 := S3.below hb4; obtain ⟨u0, u1⟩ := S4.two.1; obtain ⟨m0, m1, m2, m3, _⟩ := V4.ex.cells; obtain ⟨m0', m1', m2', m3', _⟩ := (V4.alloc (.cells #[.int .u64 (a : Nat), .int .u64 (b : Nat), .int .u64 (c : Nat), .int .u64 (d : Nat), .int .u64 (p : Nat), .int .u64 (q : Nat), .int .u64 (r : Nat), .int .u64 (s : Nat)] 24)).ex.cells; obtain ⟨u0', u1'⟩ := (S4.alloc (.cells #[.int .u64 (a : Nat), .int .u64 (b : Nat), .int .u64 (c : Nat), .int .u64 (d : Nat), .int .u64 (p : Nat), .int .u64 (q : Nat), .int .u64 (r : Nat), .int .u64 (s : Nat)] 24)).two.1) | (go_at_call 89; refine (HU.out _ p q r s h4).mono ?_; rintro e w5 ⟨⟨p', q', r', s', rfl, h5⟩, hb5⟩; have V5 := (V4.alloc _).below hb5; have S5 := (S4.alloc _).below hb5; obtain ⟨w0', w1'⟩ := S5.two.1; obtain ⟨y0, y1, y2, y3, v0, v1, v2, v3⟩ := V5.ex.cells))
        all_goals
          have HY := HX.out _ p' q' r' s' V5 h5
          have HZ : Hid _ := HY
          clear HX HY HU HC HF V5 V4 V3 S5 S4 S3 h5 h4
          go_wp2
          go_roundw
          case rel => exact ⟨k + 1, hlt, by go_num, HZ.out⟩
          case measure => simp [intOf]; omega
    · obtain rfl : k = n := by omega
      have hki : ¬ (k : Int) < (k : Int) := by omega
      obtain ⟨p', q', r', s', hy⟩ := hW2.res
      obtain ⟨c0, c1, c2, c3, f0, f1, f2, f3⟩ := hW2.ex.cells
      obtain ⟨y0, y1, y2, y3, v0, v1, v2, v3⟩ := hy.cells
      obtain ⟨z0, z1, z2, z3, _⟩ := (hy.set (.int .u64 (a : Nat)) (.int .u64 (b : Nat)) (.int .u64 (c : Nat)) (.int .u64 (d : Nat))).cells
      go_wp2
      exact bodyPost_ret (v := .agg #[.int .u64 (a : Nat), .int .u64 (b : Nat), .int .u64 (c : Nat), .int .u64 (d : Nat)]) (by simp [results, Tryd.results70, go_sem, z0, z1, z2, z3]) rfl ⟨⟨a, b, c, d, rfl, h4⟩, below_put4 hW2.bel (Nat.le_refl _) _ _ _ _⟩
end Go.Proofs.YthbmfnibgjlkhaaDoor
