/- SpinMakes: the walk. -/
import Derived.Test.YtgololmgdakigaaRh
namespace Go.Proofs.Ytgololmgdakigaa
open Go.RowKit
theorem eql_same {a b c d : Nat} {p : Int × Int} (hp : IsC (.complex .f64 a b) p) (hq : IsC (.complex .f64 c d) p) (mp : Wd p 9007199254740991) (W : World) : (Go.binOp .eql 27 (.complex .f64 a b) (.complex .f64 c d)).run Try.prog W = .ok (.bool true) W := by
  have := eql_c hp hq mp mp Try.prog 27 W
  rwa [decide_eq_true rfl] at this
set_option maxRecDepth 10000 in
set_option maxHeartbeats 4000000 in
theorem makes_law (b : Nat) (hb : b < 256) (re im q : Int) (hre : -2147483648 ≤ re ∧ re ≤ 2147483647) (him : -2147483648 ≤ im ∧ im ≤ 2147483647) (ao : Option Addr) (n cap : Nat) (z : Nat → Nat) (w : World) (hr : Rd w ao n z) : Calls Try.prog 3 #[.int .u8 (b : Nat), .int .i32 re, .int .i32 im, .int .i64 q, .slice ao n cap] w fun e w' => e = .returned (.bool true) ∧ Below w.heap.size w w' := by
  have H8 := fun W => small_any n W
  by_cases hn : n ≤ 1048576
  · rw [decide_eq_true hn] at H8
    have w1 : IntKind.i64.wrap re = re := by rw [IntKind.wrap_i64]; omega
    have w2 : IntKind.i64.wrap im = im := by rw [IntKind.wrap_i64]; omega
    have hB := below1 w (.cells #[.int .i64 re, .int .i64 im] 25)
    have k := Cl.new w 25 [.int .i64 re, .int .i64 im]
    have HG : Hid (∀ W, Calls Try.prog 10 #[.int .u8 (b : Nat)] W fun e w' => (∃ v, e = .returned v ∧ IsC v (gs b)) ∧ w' = W) := fun W => gauss_any b hb W
    have HR : Hid (∀ W, Calls Try.prog 12 #[.int .u8 (b : Nat)] W fun e w' => e = .returned (ptV (gs b)) ∧ Below W.heap.size W w') := fun W => rgauss_any b hb W
    have HP : Hid (∀ p W, Calls Try.prog 11 #[ptV p] W fun e w' => (∃ v, e = .returned v ∧ IsC v p) ∧ Below W.heap.size W w') := fun p W => point_any p W
    have hpw : Wd (re, im) 2147483648 := ⟨by dsimp only; omega, by dsimp only; omega⟩
    have HP1 : Hid (∀ W, Calls Try.prog 11 #[.agg #[.int .i64 re, .int .i64 im]] W fun e w' => (∃ v, e = .returned v ∧ IsC v (re, im)) ∧ Below W.heap.size W w') := fun W => point_any (re, im) W
    have HT : Hid (∀ v W, IsC v (re, im) → Calls Try.prog 13 #[v, .int .i64 q] W fun e w' => (∃ v, e = .returned v ∧ IsC v (tn (re, im) q)) ∧ w' = W) := fun v W h => turn_any v (re, im) q W h (hpw.mono (by decide))
    have HU : Hid (∀ W, Calls Try.prog 14 #[.agg #[.int .i64 re, .int .i64 im], .int .i64 q] W fun e w' => e = .returned (ptV (tn (re, im) q)) ∧ Below W.heap.size W w') := fun W => rturn_any (re, im) q W (hpw.mono (by decide))
    have HO : Hid (∀ W, Below w.heap.size w W → Calls Try.prog 15 #[.slice ao n cap] W fun e w' => (∃ v, e = .returned v ∧ IsC v (ofL z n)) ∧ w' = W) := fun W h => of_any ao n cap z W (hr.below h) (by omega)
    have HV : Hid (∀ W, Below w.heap.size w W → Calls Try.prog 16 #[.slice ao n cap] W fun e w' => e = .returned (ptV (ofL z n)) ∧ Below W.heap.size W w') := fun W h => rof_any ao n cap z W (hr.below h) (by omega)
    have HE1 : Hid (∀ a b' c d W, IsC (.complex .f64 a b') (gs b) → IsC (.complex .f64 c d) (gs b) → (Go.binOp .eql 27 (.complex .f64 a b') (.complex .f64 c d)).run Try.prog W = .ok (.bool true) W) := fun a b' c d W h k => eql_same h k ((gs_wd hb).mono (by decide)) W
    have HE2 : Hid (∀ a b' c d W, IsC (.complex .f64 a b') (tn (re, im) q) → IsC (.complex .f64 c d) (tn (re, im) q) → (Go.binOp .eql 27 (.complex .f64 a b') (.complex .f64 c d)).run Try.prog W = .ok (.bool true) W) := fun a b' c d W h k => eql_same h k (tn_wd (hpw.mono (by decide)) q) W
    have HE3 : Hid (∀ a b' c d W, IsC (.complex .f64 a b') (ofL z n) → IsC (.complex .f64 c d) (ofL z n) → (Go.binOp .eql 27 (.complex .f64 a b') (.complex .f64 c d)).run Try.prog W = .ok (.bool true) W) := fun a b' c d W h k => eql_same h k ((ofL_wd hr.small).mono (by omega)) W
    have H9 := fun W => begun_any W
    clear hr hpw hre him
    go_enter Try.func3, Try.ntmps3
    go_upto_region 4 with (go_at_call 8; refine (H8 _).mono ?_; rintro e w1 ⟨rfl, rfl⟩)
    have HK : Cl (w1.alloc (.cells #[.int .i64 re, .int .i64 im] 25)).drew w1.heap.size 25 [.int .i64 re, .int .i64 im] := k.drew
    have hbl : Below w1.heap.size w1 (w1.alloc (.cells #[.int .i64 re, .int .i64 im] 25)).drew := hB.drew
    clear k hB
    go_region_held3 (fun w' => w'.cell? ⟨w1.heap.size, 0, none⟩ = some (.int .i64 re) ∧ w'.cell? ⟨w1.heap.size, 1, none⟩ = some (.int .i64 im)) (exact ⟨HK.cell 0 rfl, HK.cell 1 rfl⟩)
      (first
        | (go_at_call 11; have g9 := g16; refine (HP.out _ _).mono ?_; rintro e w99 ⟨⟨v17, rfl, g17⟩, hb⟩; obtain ⟨a17, b17, rfl⟩ := g17.is; have e17 := fun W => HE3.out a15 b15 a17 b17 W g15 g17; replace HK := HK.below hb; replace hbl := hbl.trans (hb.mono hbl.size))
        | (go_at_call 16; refine (HV.out _ hbl).mono ?_; rintro e w16 ⟨rfl, hb⟩; have g16 : True := trivial; replace HK := HK.below hb; replace hbl := hbl.trans (hb.mono hbl.size))
        | (go_at_call 15; refine (HO.out _ hbl).mono ?_; rintro e w15 ⟨⟨v15, rfl, g15⟩, rfl⟩; obtain ⟨a15, b15, rfl⟩ := g15.is)
        | (go_at_call 11; have g9 := g14; refine (HP.out _ _).mono ?_; rintro e w88 ⟨⟨v18, rfl, g18⟩, hb⟩; obtain ⟨a18, b18, rfl⟩ := g18.is; have e18 := fun W => HE2.out a13 b13 a18 b18 W g13 g18; replace HK := HK.below hb; replace hbl := hbl.trans (hb.mono hbl.size))
        | (go_at_call 14; refine (HU.out _).mono ?_; rintro e w14 ⟨rfl, hb⟩; have g14 : True := trivial; replace HK := HK.below hb; replace hbl := hbl.trans (hb.mono hbl.size))
        | (go_at_call 13; refine (HT.out _ _ g12).mono ?_; rintro e w13 ⟨⟨v13, rfl, g13⟩, rfl⟩; obtain ⟨a13, b13, rfl⟩ := g13.is)
        | (go_at_call 11; have g9 := e11; refine (HP1.out _).mono ?_; rintro e w77 ⟨⟨v12, rfl, g12⟩, hb⟩; obtain ⟨a12, b12, rfl⟩ := g12.is; replace HK := HK.below hb; replace hbl := hbl.trans (hb.mono hbl.size))
        | (go_at_call 11; refine (HP.out _ _).mono ?_; rintro e w66 ⟨⟨v11, rfl, g11⟩, hb⟩; obtain ⟨a11, b11, rfl⟩ := g11.is; have e11 := fun W => HE1.out a10 b10 a11 b11 W g10 g11; replace HK := HK.below hb; replace hbl := hbl.trans (hb.mono hbl.size))
        | (go_at_call 12; refine (HR.out _).mono ?_; rintro e w55 ⟨rfl, hb⟩; replace HK := HK.below hb; replace hbl := hbl.trans (hb.mono hbl.size))
        | (go_at_call 10; refine (HG.out _).mono ?_; rintro e w44 ⟨⟨v10, rfl, g10⟩, rfl⟩; obtain ⟨a10, b10, rfl⟩ := g10.is)
        | (go_at_call 9; refine (H9 _).mono ?_; rintro e w33 ⟨rfl, hb⟩; replace HK := HK.below hb; replace hbl := hbl.trans (hb.mono hbl.size)))
    go_wp2
    go_ret
    exact ⟨rfl, hbl⟩
  · rw [decide_eq_false hn] at H8
    have hB := Below.refl w.heap.size w
    go_enter Try.func3, Try.ntmps3
    go_wp2_with (go_at_call 8; refine (H8 _).mono ?_; rintro e w1 ⟨rfl, rfl⟩)
    go_ret
    exact ⟨rfl, hB⟩
end Go.Proofs.Ytgololmgdakigaa
