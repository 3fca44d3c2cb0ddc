/- The reference's points; Roll, Join: the walks. -/
import Derived.Test.YtgololmgdakigaaOf
import Derived.Deep.RegionHeld3
namespace Go.Proofs.Ytgololmgdakigaa
open Go.RowKit
/-- A point as a value. -/
def ptV (p : Int × Int) : Value := .agg #[.int .i64 p.1, .int .i64 p.2]
set_option maxRecDepth 10000 in
theorem small_any (n : Nat) (w : World) : Calls Try.prog 8 #[.int .i64 (n : Nat)] w fun e w' => e = .returned (.bool (decide (n ≤ 1048576))) ∧ w' = w := by
  by_cases h : n ≤ 1048576
  · have h1 : (n : Int) ≤ 1048576 := by omega
    go_enter Try.func8, Try.ntmps8
    go_wp2
    go_ret
    simp [h]
  · have h1 : ¬ (n : Int) ≤ 1048576 := by omega
    go_enter Try.func8, Try.ntmps8
    go_wp2
    go_ret
    simp
set_option maxRecDepth 10000 in
theorem point_any (p : Int × Int) (w : World) : Calls Try.prog 11 #[ptV p] w fun e w' => (∃ v, e = .returned v ∧ IsC v p) ∧ Below w.heap.size w w' := by
  obtain ⟨x, y⟩ := p
  have hB := below1 w (.cells #[.int .i64 x, .int .i64 y] 25)
  have k := Cl.new w 25 [.int .i64 x, .int .i64 y]
  obtain ⟨⟨c0, c1⟩, _⟩ := k.two
  unfold ptV
  dsimp only
  go_enter Try.func11, Try.ntmps11
  go_wp2
  go_ret
  exact ⟨⟨_, rfl, _, _, rfl, of_int _, of_int _⟩, hB⟩
set_option maxRecDepth 10000 in
theorem rgauss_any (b : Nat) (hb : b < 256) (w : World) : Calls Try.prog 12 #[.int .u8 (b : Nat)] w fun e w' => e = .returned (ptV (gs b)) ∧ Below w.heap.size w w' := by
  obtain ⟨x, hx⟩ : ∃ x, x = b / 16 := ⟨_, rfl⟩
  obtain ⟨y, hy⟩ : ∃ y, y = b % 16 := ⟨_, rfl⟩
  have e1 : (b : Int) / 16 = (x : Int) := by omega
  have e2 : (b : Int) % 16 = (y : Int) := by omega
  have e3 : (b : Int).tdiv 16 = (x : Int) := by rw [Int.tdiv_eq_ediv_of_nonneg (by omega)]; exact e1
  have e4 : (b : Int).tmod 16 = (y : Int) := by rw [Int.tmod_eq_emod_of_nonneg (by omega)]; exact e2
  have hx2 : x < 256 := by omega
  have hy2 : y < 256 := by omega
  have HG : Hid (gs b = ((x : Int), (y : Int))) := by show gs b = _; unfold gs; rw [hx, hy]
  clear hx hy
  have k := Cl.new w 25 [.int .i64 0, .int .i64 0]
  obtain ⟨⟨c0, c1⟩, f0, f1⟩ := k.two
  have kz := Cl.new w 25 [.int .i64 (x : Nat), .int .i64 (y : Nat)]
  obtain ⟨⟨r0, r1⟩, _⟩ := kz.two
  have hB := below1 w (.cells #[.int .i64 (x : Nat), .int .i64 (y : Nat)] 25)
  go_enter Try.func12, Try.ntmps12
  go_wp2
  exact bodyPost_ret (v := .agg #[.int .i64 (x : Nat), .int .i64 (y : Nat)]) (by simp [results, Try.results12, go_sem, r0, r1]) rfl ⟨by rw [HG.out]; rfl, hB⟩
set_option maxRecDepth 10000 in
theorem rplus_any (p q : Int × Int) (w : World) {M N : Nat} (hp : Wd p M) (hq : Wd q N) (hm : M + N ≤ 9007199254740991) : Calls Try.prog 26 #[ptV p, ptV q] w fun e w' => e = .returned (ptV (pl p q)) ∧ Below w.heap.size w w' := by
  obtain ⟨x, y⟩ := p
  obtain ⟨s, t⟩ := q
  have hx := hp.1
  have hy := hp.2
  have hs := hq.1
  have ht := hq.2
  dsimp only at hx hy hs ht
  have w1 : IntKind.i64.wrap (x + s) = x + s := by rw [IntKind.wrap_i64]; omega
  have w2 : IntKind.i64.wrap (y + t) = y + t := by rw [IntKind.wrap_i64]; omega
  unfold ptV pl
  dsimp only
  go_enter Try.func26, Try.ntmps26
  go_wp2
  have hB : Below w.heap.size w (((w.alloc (.cells #[.int .i64 x, .int .i64 y] 25)).alloc (.cells #[.int .i64 s, .int .i64 t] 25)).alloc (.cells #[.int .i64 (x + s), .int .i64 (y + t)] 25)) := (below2 w _ _).alloc (by simp; omega) _
  have k := Cl.new ((w.alloc (.cells #[.int .i64 x, .int .i64 y] 25)).alloc (.cells #[.int .i64 s, .int .i64 t] 25)) 25 [.int .i64 (x + s), .int .i64 (y + t)]
  simp only [World.size_alloc] at k
  obtain ⟨⟨c0, c1⟩, _⟩ := k.two
  exact bodyPost_ret (v := .agg #[.int .i64 (x + s), .int .i64 (y + t)]) (by simp [results, Try.results26, go_sem, c0, c1]) rfl ⟨rfl, hB⟩
set_option maxRecDepth 10000 in
theorem rturn_any (p : Int × Int) (q : Int) (w : World) (hp : Wd p 9007199254740991) : Calls Try.prog 14 #[ptV p, .int .i64 q] w fun e w' => e = .returned (ptV (tn p q)) ∧ Below w.heap.size w w' := by
  obtain ⟨x, y⟩ := p
  have hx := hp.1
  have hy := hp.2
  dsimp only at hx hy
  have w1 : IntKind.i64.wrap (0 - x) = -x := by rw [IntKind.wrap_i64]; omega
  have w2 : IntKind.i64.wrap (0 - y) = -y := by rw [IntKind.wrap_i64]; omega
  have w3 : IntKind.i64.wrap (-x) = -x := by rw [IntKind.wrap_i64]; omega
  have w4 : IntKind.i64.wrap (-y) = -y := by rw [IntKind.wrap_i64]; omega
  have hq := bits_and3 q
  obtain ⟨r, hr⟩ : ∃ r, r = q % 4 := ⟨_, rfl⟩
  have hr4 : r = 0 ∨ r = 1 ∨ r = 2 ∨ r = 3 := by omega
  have HF : Hid (tn (x, y) q = if r = 1 then (-y, x) else if r = 2 then (-x, -y) else if r = 3 then (y, -x) else (x, y)) := by show tn (x, y) q = _; rw [hr]; rfl
  rw [← hr] at hq
  clear hr
  have HB : Hid (∀ a b : Int, Below w.heap.size w ((w.alloc (.cells #[.int .i64 x, .int .i64 y] 25)).alloc (.cells #[.int .i64 a, .int .i64 b] 25)) ∧ ((w.alloc (.cells #[.int .i64 x, .int .i64 y] 25)).alloc (.cells #[.int .i64 a, .int .i64 b] 25)).cell? ⟨w.heap.size + 1, 0, none⟩ = some (.int .i64 a) ∧ ((w.alloc (.cells #[.int .i64 x, .int .i64 y] 25)).alloc (.cells #[.int .i64 a, .int .i64 b] 25)).cell? ⟨w.heap.size + 1, 1, none⟩ = some (.int .i64 b)) := fun a b => by
    have k := Cl.new (w.alloc (.cells #[.int .i64 x, .int .i64 y] 25)) 25 [.int .i64 a, .int .i64 b]
    simp only [World.size_alloc] at k
    exact ⟨below2 _ _ _, k.two.1⟩
  rw [show ptV (x, y) = .agg #[.int .i64 x, .int .i64 y] from rfl]
  clear hp
  rcases hr4 with rfl | rfl | rfl | rfl
  · go_enter Try.func14, Try.ntmps14
    go_wp2
    obtain ⟨b1, b2, b3⟩ := HB.out x y
    exact bodyPost_ret (v := .agg #[.int .i64 x, .int .i64 y]) (by simp [results, Try.results14, go_sem, b2, b3]) rfl ⟨by rw [HF.out]; rfl, b1⟩
  · go_enter Try.func14, Try.ntmps14
    go_wp2
    obtain ⟨b1, b2, b3⟩ := HB.out (-y) x
    exact bodyPost_ret (v := .agg #[.int .i64 (-y), .int .i64 x]) (by simp [results, Try.results14, go_sem, b2, b3]) rfl ⟨by rw [HF.out]; rfl, b1⟩
  · go_enter Try.func14, Try.ntmps14
    go_wp2
    obtain ⟨b1, b2, b3⟩ := HB.out (-x) (-y)
    exact bodyPost_ret (v := .agg #[.int .i64 (-x), .int .i64 (-y)]) (by simp [results, Try.results14, go_sem, b2, b3]) rfl ⟨by rw [HF.out]; rfl, b1⟩
  · go_enter Try.func14, Try.ntmps14
    go_wp2
    obtain ⟨b1, b2, b3⟩ := HB.out y (-x)
    exact bodyPost_ret (v := .agg #[.int .i64 y, .int .i64 (-x)]) (by simp [results, Try.results14, go_sem, b2, b3]) rfl ⟨by rw [HF.out]; rfl, b1⟩
end Go.Proofs.Ytgololmgdakigaa
