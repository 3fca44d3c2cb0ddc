/- parse: the builder's take of a leaf: the walk. -/
import Derived.Test.YtlmmiicibjfcdaaPg
namespace Go.Proofs.Ytlmmiicibjfcdaa
open Go.RowKit
section
variable (b a0 a1 a2 a3 : Nat) (nt : Bool) (l m : Int) (lz : Bool) (t : Int)
variable {X w W : World} {bp : Nat} {fl : Fg} {s : Bs} {no : Option Addr} {nc g lc : Nat}
set_option maxRecDepth 10000 in
set_option maxHeartbeats 4000000 in
theorem take_d (k : Int) (x : Nd) (is : Bool) (h4 : (k == 4) = false) (h6 : (k == 6) = false) (h5 : (k == 5) = false) (h7 : (k == 7) = false) (HL : ∀ U, Calls Try.prog 15 #[tokI k b a0 a1 a2 a3 nt l m lz t, fgV fl] U (RetLf U (x, is)))
    (h : BM X w bp fl s no nc g lc W) (hl : s.lv ≠ []) (hmx : s.many < 99990) : Calls Try.prog 44 #[bP bp, tokI k b a0 a1 a2 a3 nt l m lz t] W (RetBM X w bp fl ((s.endItem.put x).setItem (s.endItem.many : Int))) := by
  have h1 := h.below (bel1 W (.cells #[.int .i64 k, .int .u8 (b : Nat), .int .u64 (a0 : Nat), .int .u64 (a1 : Nat), .int .u64 (a2 : Nat), .int .u64 (a3 : Nat), .bool nt, .int .i64 l, .int .i64 m, .bool lz, .int .i64 t] 42))
  have hk1 := h1.kp
  have kT := Cl.new W 42 [.int .i64 k, .int .u8 (b : Nat), .int .u64 (a0 : Nat), .int .u64 (a1 : Nat), .int .u64 (a2 : Nat), .int .u64 (a3 : Nat), .bool nt, .int .i64 l, .int .i64 m, .bool lz, .int .i64 t]
  have HE := endItem_any h1.base hl (by omega)
  have hl1 := endItem_ne s
  have hm1 := endItem_many s
  have HL' : Hid (∀ U, Calls Try.prog 15 #[.agg #[.int .i64 k, .int .u8 (b : Nat), .int .u64 (a0 : Nat), .int .u64 (a1 : Nat), .int .u64 (a2 : Nat), .int .u64 (a3 : Nat), .bool nt, .int .i64 l, .int .i64 m, .bool lz, .int .i64 t], .agg #[.bool fl.c, .bool fl.d, .bool fl.m, .bool fl.o, .bool fl.l]] U fun e U' => e = .returned (.tuple #[.agg #[.int .i64 x.k, .int .u64 x.c0, .int .u64 x.c1, .int .u64 x.c2, .int .u64 x.c3, .int .i64 x.a, .int .i64 x.b, .int .i64 x.l, .int .i64 x.m, .bool x.z], .bool is]) ∧ Below U.heap.size U U') := HL
  unfold tokI
  clear h h1 HL
  go_enter Try.func44, Try.ntmps44
  go_wp2_with fail
  refine HE.mono ?_
  rintro e W2 ⟨rfl, no1, nc1, h2⟩
  have kT2 := h2.kp.cl kT (by decide) (by decide) (by decide)
  have hmx1 : s.endItem.many < 99995 := by omega
  clear HE kT hl hmx hm1
  generalize hY : W.alloc (.cells #[.int .i64 k, .int .u8 (b : Nat), .int .u64 (a0 : Nat), .int .u64 (a1 : Nat), .int .u64 (a2 : Nat), .int .u64 (a3 : Nat), .bool nt, .int .i64 l, .int .i64 m, .bool lz, .int .i64 t] 42) = Y at *
  clear hY
  have HT0 : Hid (∀ U, BM Y w bp fl s.endItem no1 nc1 g lc U → Calls Try.prog 66 #[bP bp] U fun e W' => e = .returned (.pointer (some ⟨g, (s.endItem.lv.length - 1) * 3, none⟩)) ∧ BM Y w bp fl s.endItem no1 nc1 g lc W' ∧ Below U.heap.size U W') := fun U hU => top_any hU hl1
  have HP : Hid (∀ W4, BM Y w bp fl s.endItem no1 nc1 g lc W4 → Calls Try.prog 67 #[bP bp, .agg #[.int .i64 x.k, .int .u64 x.c0, .int .u64 x.c1, .int .u64 x.c2, .int .u64 x.c3, .int .i64 x.a, .int .i64 x.b, .int .i64 x.l, .int .i64 x.m, .bool x.z]] W4 fun e W' => e = .returned (.int .i64 (s.endItem.many : Nat)) ∧ ∃ no' nc', BM Y w bp fl (s.endItem.put x) no' nc' g lc W') := fun W4 h6 => put_any h6 (by omega) x
  have HF : Hid (∀ W3 no' nc', BM Y w bp fl (s.endItem.put x) no' nc' g lc W3 → (W3.cell? ⟨g, (s.endItem.lv.length - 1) * 3 + 2, none⟩ = some (.int .i64 s.endItem.top.2.2) ∧ W3.frozen? ⟨g, (s.endItem.lv.length - 1) * 3 + 2, none⟩ = false) ∧ BM X w bp fl ((s.endItem.put x).setItem (s.endItem.many : Int)) no' nc' g lc (W3.setCell ⟨g, (s.endItem.lv.length - 1) * 3 + 2, none⟩ (.int .i64 (s.endItem.many : Nat)))) := by
    intro W3 no' nc' h5
    have q := h5.top (s := s.endItem.put x) hl1
    exact ⟨⟨q.2.2.1, q.2.2.2.1 _⟩, (h5.put0 (s := s.endItem.put x) hl1 2 (s.endItem.many : Int) (s.endItem.top.1, s.endItem.top.2.1, (s.endItem.many : Int)) rfl (by omega)).from_ hk1⟩
  have h2d := h2.below (Below.refl _ _).drew
  have kTd := kT2.drew
  have hbA : Below W2.heap.size W2 (W2.alloc (.cells #[.int .i64 0, .int .u64 0, .int .u64 0, .int .u64 0, .int .u64 0, .int .i64 0, .int .i64 0, .int .i64 0, .int .i64 0, .bool false] 44)) := bel1 W2 _
  have h2A := h2.below hbA
  have kTA := kT2.below hbA
  have kZA := Cl.new W2 44 [.int .i64 0, .int .u64 0, .int .u64 0, .int .u64 0, .int .u64 0, .int .i64 0, .int .i64 0, .int .i64 0, .int .i64 0, .bool false]
  obtain ⟨⟨f0, f1, f2, f3, f4⟩, _⟩ := h2d.cells
  obtain ⟨⟨e0, e1, e2, e3, e4⟩, _⟩ := h2A.cells
  have c0 := kTd.cell 0 rfl
  have d0 := kTA.cell 0 rfl
  have c1 := kTd.cell 1 rfl
  have d1 := kTA.cell 1 rfl
  have c2 := kTd.cell 2 rfl
  have d2 := kTA.cell 2 rfl
  have c3 := kTd.cell 3 rfl
  have d3 := kTA.cell 3 rfl
  have c4 := kTd.cell 4 rfl
  have d4 := kTA.cell 4 rfl
  have c5 := kTd.cell 5 rfl
  have d5 := kTA.cell 5 rfl
  have c6 := kTd.cell 6 rfl
  have d6 := kTA.cell 6 rfl
  have c7 := kTd.cell 7 rfl
  have d7 := kTA.cell 7 rfl
  have c8 := kTd.cell 8 rfl
  have d8 := kTA.cell 8 rfl
  have c9 := kTd.cell 9 rfl
  have d9 := kTA.cell 9 rfl
  have c10 := kTd.cell 10 rfl
  have d10 := kTA.cell 10 rfl
  clear h2d kT2 kTd h2A kTA hl1 hmx1
  go_wp2_with fail
  go_region_law (go_simp; go_at_call 15; refine (HL'.out _).mono ?_; rintro e W3 ⟨rfl, hb3⟩; (first | (have hbW : Below W2.heap.size W2 W3 := (Below.refl _ _).drew.trans (hb3.mono (Nat.le_refl _))) | (have hbW : Below W2.heap.size W2 W3 := hbA.drew.trans (hb3.mono hbA.size); have kZ : Cl W3 W2.heap.size 44 [.int .i64 0, .int .u64 0, .int .u64 0, .int .u64 0, .int .u64 0, .int .i64 0, .int .i64 0, .int .i64 0, .int .i64 0, .bool false] := kZA.drew.below hb3; obtain ⟨y0, y1, y2, y3, y4, y5, y6, y7, y8, y9, v0, v1, v2, v3, v4, v5, v6, v7, v8, v9⟩ := kZ.ten)); clear hb3)
  all_goals
    clear f0 f1 f2 f3 f4 e0 e1 e2 e3 e4 HL' hbA kZA c0 d0 c1 d1 c2 d2 c3 d3 c4 d4 c5 d5 c6 d6 c7 d7 c8 d8 c9 d9 c10 d10
    first
    | (have hz := kZ
       clear y0 y1 y2 y3 y4 y5 y6 y7 y8 y9 v0 v1 v2 v3 v4 v5 v6 v7 v8 v9
       go_upto_region 4 with fail
       change Code.wp _ _ _ _ (put10 W3 W2.heap.size (.int .i64 x.k) (.int .u64 x.c0) (.int .u64 x.c1) (.int .u64 x.c2) (.int .u64 x.c3) (.int .i64 x.a) (.int .i64 x.b) (.int .i64 x.l) (.int .i64 x.m) (.bool x.z))
       have hbV : Below W2.heap.size W2 (put10 W3 W2.heap.size (.int .i64 x.k) (.int .u64 x.c0) (.int .u64 x.c1) (.int .u64 x.c2) (.int .u64 x.c3) (.int .i64 x.a) (.int .i64 x.b) (.int .i64 x.l) (.int .i64 x.m) (.bool x.z)) := below_put10 hbW (Nat.le_refl _) _ _ _ _ _ _ _ _ _ _
       have kN := kZ.put10 (.int .i64 x.k) (.int .u64 x.c0) (.int .u64 x.c1) (.int .u64 x.c2) (.int .u64 x.c3) (.int .i64 x.a) (.int .i64 x.b) (.int .i64 x.l) (.int .i64 x.m) (.bool x.z)
       clear hz kZ hbW
       generalize put10 W3 W2.heap.size (.int .i64 x.k) (.int .u64 x.c0) (.int .u64 x.c1) (.int .u64 x.c2) (.int .u64 x.c3) (.int .i64 x.a) (.int .i64 x.b) (.int .i64 x.l) (.int .i64 x.m) (.bool x.z) = V at *
       obtain ⟨bn, hbn⟩ : ∃ bn, bn = W2.heap.size := ⟨_, rfl⟩
       rw [← hbn] at kN
       rw [← hbn]
       clear hbn)
    | (go_upto_region 4 with fail
       have hbV : Below W2.heap.size W2 (W3.alloc (.cells #[.int .i64 x.k, .int .u64 x.c0, .int .u64 x.c1, .int .u64 x.c2, .int .u64 x.c3, .int .i64 x.a, .int .i64 x.b, .int .i64 x.l, .int .i64 x.m, .bool x.z] 44)) := hbW.trans ((bel1 W3 _).mono hbW.size)
       have kN := Cl.new W3 44 [.int .i64 x.k, .int .u64 x.c0, .int .u64 x.c1, .int .u64 x.c2, .int .u64 x.c3, .int .i64 x.a, .int .i64 x.b, .int .i64 x.l, .int .i64 x.m, .bool x.z]
       clear hbW
       generalize W3.alloc (.cells #[.int .i64 x.k, .int .u64 x.c0, .int .u64 x.c1, .int .u64 x.c2, .int .u64 x.c3, .int .i64 x.a, .int .i64 x.b, .int .i64 x.l, .int .i64 x.m, .bool x.z] 44) = V at *
       generalize W3.heap.size = bn at *)
  all_goals
    generalize (s.endItem.lv.length - 1) * 3 = p at *
    have h5 := h2.below hbV
    have h5d := h5.below (Below.refl _ _).drew
    have kNd := kN.drew
    have HT := HT0.out _ h5d
    have n0 := kNd.cell 0 rfl
    have n1 := kNd.cell 1 rfl
    have n2 := kNd.cell 2 rfl
    have n3 := kNd.cell 3 rfl
    have n4 := kNd.cell 4 rfl
    have n5 := kNd.cell 5 rfl
    have n6 := kNd.cell 6 rfl
    have n7 := kNd.cell 7 rfl
    have n8 := kNd.cell 8 rfl
    have n9 := kNd.cell 9 rfl
    have HQ : Hid (∀ W4, Below V.drew.heap.size V.drew W4 → Cl W4 bn 44 [.int .i64 x.k, .int .u64 x.c0, .int .u64 x.c1, .int .u64 x.c2, .int .u64 x.c3, .int .i64 x.a, .int .i64 x.b, .int .i64 x.l, .int .i64 x.m, .bool x.z]) := fun W4 hb => kNd.below hb
    clear h5 h5d kN kNd hk1 h2 hbV
    go_wp2_with fail
    go_region_law (first
      | (go_simp; go_at_call 66; refine HT.mono ?_; rintro e W4 ⟨rfl, h6, hb4⟩; have kN4 := HQ.out W4 hb4; have HP4 := HP.out W4 h6; obtain ⟨m0, m1, m2, m3, m4, m5, m6, m7, m8, m9, _⟩ := kN4.ten; clear h6 hb4 kN4)
      | (go_simp; go_at_call 67; refine HP4.mono ?_; rintro e W5 ⟨rfl, no', nc', h7⟩; obtain ⟨⟨x1, x2⟩, h8⟩ := HF.out W5 no' nc' h7; have HB : Hid _ := h8; clear h7 h8))
    all_goals
      go_wp2_with fail
      exact bodyPost_end (v := .tuple #[]) (by simp [results, Try.results44, go_sem]) rfl ⟨rfl, _, _, _, _, HB.out⟩
end
end Go.Proofs.Ytlmmiicibjfcdaa
