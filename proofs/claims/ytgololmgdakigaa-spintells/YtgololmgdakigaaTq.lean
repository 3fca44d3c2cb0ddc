/- slices.Equal of windows, where both are told alike: the walk. -/
import Derived.Test.YtgololmgdakigaaTd
namespace Go.Proofs.Ytgololmgdakigaa
open Go.RowKit Go.Shelf
theorem f38 : Try.prog.fieldsOf 38 = #[{ name := "at", type := 3, offset := 0, embedded := false, tag := "", pkgPath := "riddle/riddlelaw16", byteOffset := 0 }, { name := "z", type := 27, offset := 1, embedded := false, tag := "", pkgPath := "riddle/riddlelaw16", byteOffset := 8 }] := by kernel_rfl
theorem feq_same {a b : Nat} {i : Int} (ha : IsF a i) (hb : IsF b i) (hi : i.natAbs < 2 ^ 53) : Op.floatEq .f64 a b = true := by
  unfold Op.floatEq
  rw [order_f ha hb hi hi, Int.compare_eq_eq.2 rfl]
  rfl
theorem eqc_same {a b c d : Nat} {p : Int × Int} (hp : IsC (.complex .f64 a b) p) (hq : IsC (.complex .f64 c d) p) (mp : Wd p 9007199254740991) (m : Nat) (w : World) : (Op.equalIn (m + 1) 27 (.complex .f64 a b) (.complex .f64 c d)).run Try.prog w = .ok true w := by
  obtain ⟨_, _, e, ha, hb⟩ := hp
  cases e
  obtain ⟨_, _, e, hc, hd⟩ := hq
  cases e
  have h1 := feq_same ha hc (by have := mp.1; omega)
  have h2 := feq_same hb hd (by have := mp.2; omega)
  simp [Op.equalIn, run_underlying Try.underlying27, h1, h2]
theorem win_same {a b c d : Nat} {p : Int × Int} (hp : IsC (.complex .f64 a b) p) (hq : IsC (.complex .f64 c d) p) (mp : Wd p 9007199254740991) (k : Int) (w : World) :
    (Go.binOp BinOp.neq 38 (.agg #[.int .i64 k, .complex .f64 a b]) (.agg #[.int .i64 k, .complex .f64 c d])).run Try.prog w = Result.ok (.bool false) w := by
  have h : (Op.equalIn (9999 + 1) 38 (.agg #[.int .i64 k, .complex .f64 a b]) (.agg #[.int .i64 k, .complex .f64 c d])).run Try.prog w = .ok true w := by
    rw [run_equalIn_struct w 9999 38 _ _ (by kernel_rfl) (by kernel_rfl), f38]
    have q0 : ∀ (x0 x1 : Value) w, (part 3 #[x0, x1] 0).run Try.prog w = .ok x0 w := fun _ _ w => by kernel_rfl
    have q1 : ∀ (x0 x1 : Value) w, (part 27 #[x0, x1] 1).run Try.prog w = .ok x1 w := fun _ _ w => by kernel_rfl
    have e3 : ∀ (x y : Int) w, (Op.equalIn 9999 3 (.int .i64 x) (.int .i64 y)).run Try.prog w = .ok (x == y) w := fun x y w => by
      rw [run_equalIn_int w 9998 3 _ _ _ _ Try.underlying3]
    have e27 := fun w => eqc_same hp hq mp 9998 w
    simp [Op.eqFields, q0, q1, e3, e27]
  simp only [binOp, Op.equal, Op.maxDepth]
  rw [Sem.run_bind, h]
  simp [Result.andThen, Sem.run_pure]
theorem wnL_len : ∀ ys : List Wn, (wnL ys).length = ys.length * 2
  | [] => rfl
  | u :: ys => by
    have h := wnL_len ys
    unfold wnL at *
    rw [List.flatMap_cons, List.length_append, h, List.length_cons]
    simp [wnC]; omega
theorem wnL_get : ∀ (ys : List Wn) (k : Nat) (u : Wn), ys[k]? = some u → (wnL ys)[k * 2]? = some (.int .i64 (u.at_ : Nat)) ∧ (wnL ys)[k * 2 + 1]? = some (.complex .f64 u.x u.y)
  | [], k, u, h => by simp at h
  | v :: ys, 0, u, h => by
    simp at h
    subst h
    exact ⟨rfl, rfl⟩
  | v :: ys, k + 1, u, h => by
    have := wnL_get ys k u (by simpa using h)
    have e : wnL (v :: ys) = .int .i64 (v.at_ : Nat) :: .complex .f64 v.x v.y :: wnL ys := rfl
    rw [e, show (k + 1) * 2 = k * 2 + 1 + 1 by omega]
    simpa using this
theorem wnL_take : ∀ (ys : List Wn) (k : Nat), (wnL ys).take (k * 2) = wnL (ys.take k)
  | [], k => by simp [wnL]
  | t :: ys, 0 => by simp [wnL]
  | t :: ys, k + 1 => by
    have h := wnL_take ys k
    have e : wnL (t :: ys) = .int .i64 (t.at_ : Nat) :: .complex .f64 t.x t.y :: wnL ys := rfl
    have e2 : wnL (t :: ys.take k) = .int .i64 (t.at_ : Nat) :: .complex .f64 t.x t.y :: wnL (ys.take k) := rfl
    rw [e, List.take_succ_cons, e2, show (k + 1) * 2 = k * 2 + 1 + 1 by omega, List.take_succ_cons, List.take_succ_cons, h]
/-- The cells of the windows of a row. -/
theorem row_win {W : World} {base n cap : Nat} {ao : Option Addr} {ys : List Wn} (h : W.ownsRow base 38 2 (.slice ao n cap) n (wnL ys)) (hl : ys.length = n) (hn : 0 < n) :
    ∃ g, ao = some ⟨g, 0, none⟩ ∧ ∀ k u, ys[k]? = some u → W.cell? ⟨g, k * 2, none⟩ = some (.int .i64 (u.at_ : Nat)) ∧ W.cell? ⟨g, k * 2 + 1, none⟩ = some (.complex .f64 u.x u.y) := by
  rcases h.2 with ⟨e, h0⟩ | ⟨g, c, cur, h', hbg, hg, hnc, _, hsz, htake⟩
  · omega
  · simp only [Value.slice.injEq] at h'
    obtain ⟨rfl, _, rfl⟩ := h'
    refine ⟨g, rfl, fun k u hu => ?_⟩
    have hk := (List.getElem?_eq_some_iff.1 hu).1
    obtain ⟨g0, g1⟩ := wnL_get ys k u hu
    have q : ∀ j v, j < n * 2 → (wnL ys)[j]? = some v → W.cell? ⟨g, j, none⟩ = some v := fun j v hj hv => by
      rw [cell_of_row W g j cur 38 (0, 0) hg, ← Array.getElem?_toList]
      rw [← htake, List.getElem?_take, if_pos hj] at hv
      exact hv
    exact ⟨q _ _ (by omega) g0, q _ _ (by omega) g1⟩
/-- The first windows of a row. -/
theorem row_take {W : World} {base n cap k : Nat} {ao : Option Addr} {ys : List Wn} (h : W.ownsRow base 38 2 (.slice ao n cap) n (wnL ys)) (hk : k ≤ n) : W.ownsRow base 38 2 (.slice ao k cap) k (wnL (ys.take k)) := by
  have hl : ys.length = n := by have := h.1; rw [wnL_len] at this; omega
  refine ⟨by rw [wnL_len, List.length_take]; omega, ?_⟩
  rcases h.2 with ⟨e, h0⟩ | ⟨g, cap', cur, e, hb, hg, h1, h2, h3, h4⟩
  · obtain ⟨rfl, -, rfl⟩ : ao = none ∧ n = 0 ∧ cap = 0 := by simpa using e
    exact .inl ⟨by rw [show k = 0 by omega], by omega⟩
  · obtain ⟨rfl, -, rfl⟩ : ao = some ⟨g, 0, none⟩ ∧ n = n ∧ cap = cap' := by simpa using e
    refine .inr ⟨g, cap, cur, rfl, hb, hg, by omega, h2, h3, ?_⟩
    rw [← wnL_take, ← h4, List.take_take, Nat.min_eq_left (Nat.mul_le_mul_right _ hk)]
theorem row_cap {B : Nat} {w : World} {ao : Option Addr} {n cap : Nat} {xs : List Value} (h : w.ownsRow B 38 2 (.slice ao n cap) n xs) : n ≤ cap := by
  rcases h.2 with ⟨h', h0⟩ | ⟨g, cap', cur, e, _, _, hc, _⟩
  · omega
  · obtain ⟨-, -, rfl⟩ : ao = some ⟨g, 0, none⟩ ∧ n = n ∧ cap = cap' := by simpa using e
    exact hc
theorem high36 (ao : Option Addr) (n cap x : Nat) (hx : x ≤ cap) (w : World) : (Instr.slice 36 (.slice ao n cap) none (some (.int .i64 (x : Nat))) none).run Try.prog w = .ok (.slice ao x cap) w := by
  have hxc : (x : Int) ≤ (cap : Int) := by omega
  have hs : ∀ w, (Go.sizeOf 38).run Try.prog w = .ok 2 w := fun w => by kernel_rfl
  by_cases h : cap = 0
  · subst h
    obtain rfl : x = 0 := by omega
    simp [go_sem, Try.underlying36, hs]
  · simp [go_sem, Try.underlying36, hxc, h, hs]
theorem min_tells (n x k : Nat) (h : k = min n x) (w : World) : (Builtin.min_ #[3, 3] 3 #[.int .i64 (n : Nat), .int .i64 (x : Nat)]).run Try.prog w = .ok (.int .i64 (k : Nat)) w := by
  rw [run_min_int2]
  subst h
  congr 2
  split <;> omega
theorem conv53n (x : Nat) (hx : x < 256) (W : World) : (convert 5 3 (.int .u8 (x : Nat))).run Try.prog W = .ok (.int .i64 (x : Nat)) W := by
  have hk : Try.prog.intKind 3 = .i64 := by kernel_rfl
  rw [run_convert_int W 5 3 .u8 _ (by rw [Try.underlying5]; rfl) (by rw [hk]; exact Try.underlying3), hk]
  rw [show IntKind.i64.wrap (x : Int) = (x : Int) by rw [IntKind.wrap_i64]; omega]
set_option maxRecDepth 10000 in
set_option maxHeartbeats 2000000 in
theorem equalW_same (ao bo : Option Addr) (n ca cb B C : Nat) (P : Nat → Int × Int) (ys zs : List Wn) (w : World) (ha : w.ownsRow B 38 2 (.slice ao n ca) n (wnL ys)) (hb : w.ownsRow C 38 2 (.slice bo n cb) n (wnL zs)) (hly : ys.length = n) (hlz : zs.length = n) (oy : Okl P ys) (oz : Okl P zs) (mP : ∀ i, i < n → Wd (P i) 9007199254740991) (hm : (n : Int) ≤ 65535) :
    Calls Try.prog 17 #[.slice ao n ca, .slice bo n cb] w fun e w' => e = .returned (.bool true) ∧ ∃ q, w' = w.drewN q := by
  have hn : ((n : Int) != (n : Int)) = false := by simp
  go_enter Try.func17, Try.ntmps17
  go_wp2_with fail
  go_loopw [13] (fun i wr => ∃ k : Nat, k ≤ n ∧ i = .int .i64 k ∧ ∃ q, wr = w.drewN q) (fun i _ => n - (intOf i).toNat)
  case atStart => exact ⟨0, Nat.zero_le _, rfl, 0, rfl⟩
  case round =>
    obtain ⟨k, hk, rfl, q, rfl⟩ := hrel
    by_cases hlt : k < n
    · obtain ⟨g, rfl, hc⟩ := row_win ha hly (by omega)
      obtain ⟨g2, rfl, hc2⟩ := row_win hb hlz (by omega)
      obtain ⟨u, hu⟩ : ∃ u, ys[k]? = some u := ⟨_, List.getElem?_eq_getElem (by omega)⟩
      obtain ⟨v, hv⟩ : ∃ v, zs[k]? = some v := ⟨_, List.getElem?_eq_getElem (by omega)⟩
      obtain ⟨c0, c1⟩ := hc k u hu
      obtain ⟨d0, d1⟩ := hc2 k v hv
      obtain ⟨ek, iu⟩ := oy k u hu
      obtain ⟨ek2, iv⟩ := oz k v hv
      have hki : (k : Int) < (n : Int) := by omega
      have hne := win_same iu iv (mP k hlt) (k : Nat)
      obtain ⟨au, xu, yu⟩ := u
      obtain ⟨av, xv, yv⟩ := v
      dsimp only at ek ek2 c0 c1 d0 d1 hne
      subst ek
      subst ek2
      clear hc hc2 ha hb hu hv iu iv oy oz mP hly hlz
      go_wp2
      go_quiet (fail)
      go_wp2
      go_roundw
      case rel => exact ⟨av + 1, by omega, by go_num, _, rfl⟩
      case measure => simp [intOf]; omega
    · go_wp2
      go_ret
      exact ⟨rfl, _, rfl⟩
end Go.Proofs.Ytgololmgdakigaa
