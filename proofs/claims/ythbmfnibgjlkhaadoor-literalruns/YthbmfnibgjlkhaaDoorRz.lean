/- The reference's Best: the walk. -/
import Derived.Test.YthbmfnibgjlkhaaDoorRy
import Derived.Test.YthbmfnibgjlkhaaDoorRb
import Derived.Deep.DeepCutAuto
import Derived.Deep.QuietTactic
namespace Go.Proofs.YthbmfnibgjlkhaaDoor
open Go.RowKit Go.Shelf K
theorem opnY_pos {p : Nat → Option (Nat × Bool)} {i : Nat} {r : Nat × List (Nat × Bool)} (h : r ∈ opnY p i) : 0 < r.2.length := by
  unfold opnY at h
  split at h
  · cases h
  · next hc =>
    simp at h
    subst h
    exact List.length_pos_iff.2 hc
theorem stY_posr (p : Nat → Option (Nat × Bool)) : ∀ (i : Nat) (r : Nat × List (Nat × Bool)), r ∈ stY p i → 0 < r.2.length
  | 0, r, h => by simp [stY] at h
  | i + 1, r, h => by
    cases hp : p i with
    | some y => rw [stY_some hp] at h; exact stY_posr p i r h
    | none =>
      rw [stY_none hp] at h
      rcases List.mem_append.1 h with h | h
      · exact stY_posr p i r h
      · exact opnY_pos h
theorem rsF_pos {F : Nat → Nd} {n k : Nat} {r : Nat × List (Nat × Bool)} (h : (rsF F n)[k]? = some r) : 0 < r.2.length := by
  have hm := List.mem_of_getElem? h
  unfold rsF at hm
  split at hm
  · unfold runsY at hm
    rcases List.mem_append.1 hm with hm | hm
    · exact stY_posr _ _ _ hm
    · exact opnY_pos hm
  · cases hm
theorem bst_two (rs : List (Nat × List (Nat × Bool))) {q : Nat × List (Nat × Bool)} (h : bstY rs = some q) : 2 ≤ q.2.length := by
  have : ∀ (rs : List (Nat × List (Nat × Bool))) (o : Option (Nat × List (Nat × Bool))), (∀ q, o = some q → 2 ≤ q.2.length) → ∀ q, rs.foldl bS o = some q → 2 ≤ q.2.length := by
    intro rs
    induction rs with
    | nil => intro o ho q h; exact ho q h
    | cons r rs ih =>
      intro o ho q h
      refine ih (bS o r) (fun q hq => ?_) q h
      unfold bS at hq
      split at hq
      · next hc =>
        obtain rfl := Option.some.inj hq
        exact hc.1
      · exact ho q hq
  exact this rs none (fun q hq => by cases hq) q h
/-- What the loop of Best holds. -/
def BSt (rs : List (Nat × List (Nat × Bool))) (j : Nat) (b : Value) : Prop := ((Hid ((rs.take j).foldl bS none = none) ∧ b = .int .i64 (-1)) ∨ ∃ (k : Nat) (r : Nat × List (Nat × Bool)), Hid ((rs.take j).foldl bS none = some r) ∧ Hid (rs[k]? = some r) ∧ b = .int .i64 (k : Nat))
/-- What stands at a place of the runs. -/
theorem RW.at_place {lo : Nat} {rs : List (Nat × List (Nat × Bool))} {W : World} {vo : Option Addr} {vc N k : Nat} {M : Nat → Value} {r : Nat × List (Nat × Bool)} (h : RW lo rs W (.slice vo rs.length vc) M) (hN : rs.length = N) (hr : rs[k]? = some r) (hp : 0 < r.2.length) : k < N ∧ ∃ go, vo = some ⟨go, 0, none⟩ ∧ go < W.heap.size ∧ ∃ g cap, W.cell? ⟨go, k * 2 + 1, none⟩ = some (.slice (some ⟨g, 0, none⟩) r.2.length cap) ∧ W.cell? ⟨go, k * 2, none⟩ = some (.int .i64 (r.1 : Nat)) ∧ RdL W (some ⟨g, 0, none⟩) r.2 ∧ r.2.length ≤ cap := by
  have hk : k < rs.length := (List.getElem?_eq_some_iff.1 hr).1
  obtain ⟨go, e, hgo, _, hc, _⟩ := row_cell h.row (by omega)
  obtain ⟨h1, h2⟩ := rcF_get (fun k => (rs.getD k (0, [])).1) M rs.length k hk
  have hel := h.els k r hr
  obtain ⟨mo, mc, hm⟩ := ownsRow_slice hel
  rw [hm] at hel h2
  obtain ⟨g, e2, _, _, _, _⟩ := row_cell hel hp
  subst e2
  have e3 : (rs.getD k (0, [])).1 = r.1 := by rw [List.getD_eq_getElem?_getD, hr]; rfl
  rw [e3] at h1
  exact ⟨by omega, go, e, hgo, g, mc, hc _ _ h2, hc _ _ h1, rdl_row hel, ownsRow_cap hel⟩
set_option maxRecDepth 10000 in
set_option maxHeartbeats 4000000 in
theorem rbest_any (a : Option Addr) (n c : Nat) (F : Nat → Nd) (w : World) (ha : RdN w a n F) (hn : (n : Int) ≤ 9223372036854775807) (hca : n ≤ c) (hwf : ∀ k, k < n → wfN (F k)) : Calls Tryd.prog 26 #[.agg #[.slice a n c]] w (RetBe w (bstY (rsF F n))) := by
  have hW0 := below1 w (.cells #[.slice a n c] 48)
  have HR := rruns_any a n c F _ (ha.below hW0) hn hca hwf
  have hlen : (rsF F n).length ≤ 2048 := by
    obtain ⟨ox, sx⟩ := snd_ok F n
    unfold rsF
    split
    · have := allY_len (ptL (snd F n)) (pt 3 (snd F n)).length
      have := pt_le 3 (snd F n)
      unfold allY at *
      unfold runsY
      omega
    · simp
  have hpos : ∀ (k : Nat) (r : Nat × List (Nat × Bool)), (rsF F n)[k]? = some r → 0 < r.2.length := fun k r h => rsF_pos h
  generalize rsF F n = rs at *
  clear ha hwf
  go_enter Tryd.func26, Tryd.ntmps26
  go_upto_region 3 with (go_at_call 23; refine HR.mono ?_; rintro e V ⟨v, M, rfl, hRW, hB⟩)
  have hBV := hW0.trans (hB.mono hW0.size)
  obtain ⟨vo, vc, rfl⟩ := ownsRow_slice hRW.row
  clear HR hB hW0
  obtain ⟨N, hN⟩ : ∃ N, N = rs.length := ⟨_, rfl⟩
  have HN : Hid (rs.length = N) := hN.symm
  rw [← hN] at hlen ⊢
  clear hN
  go_wp2_with fail
  go_loopw [6, 7] (fun b i wr => ∃ j : Nat, j ≤ N ∧ i = .int .i64 (j : Nat) ∧ Below V.heap.size V wr ∧ BSt rs j b) (fun _ i _ => N - (intOf i).toNat)
  case atStart => exact ⟨0, by omega, rfl, Below.refl _ _, .inl ⟨rfl, rfl⟩⟩
  case round =>
    obtain ⟨j, hj, rfl, hbr, hst⟩ := hrel
    unfold BSt at hst
    have hRr := hRW.below hbr
    have HA : Hid (∀ (k : Nat) (r : Nat × List (Nat × Bool)), rs[k]? = some r → k < N ∧ ∃ go, vo = some ⟨go, 0, none⟩ ∧ go < wr.heap.size ∧ ∃ g cap, wr.cell? ⟨go, k * 2 + 1, none⟩ = some (.slice (some ⟨g, 0, none⟩) r.2.length cap) ∧ wr.cell? ⟨go, k * 2, none⟩ = some (.int .i64 (r.1 : Nat)) ∧ RdL wr (some ⟨g, 0, none⟩) r.2 ∧ r.2.length ≤ cap) := fun k r h => hRr.at_place HN.out h (hpos k r h)
    have HBw : Hid (∀ m, Below V.heap.size V (wr.drewN m)) := fun m => below_drewN hbr m
    have HBf := hBV.trans (hbr.mono hBV.size)
    clear hRr hRW
    by_cases hlt : j < N
    · have hji : (j : Int) < (N : Int) := by omega
      obtain ⟨r, hr⟩ : ∃ r, rs[j]? = some r := ⟨_, List.getElem?_eq_getElem (by rw [HN.out]; exact hlt)⟩
      obtain ⟨_, go, rfl, hgo, g, cap, d1, d0, _, _⟩ := HA.out j r hr
      have hstep := bst_step hr
      have HS : Hid (∀ (b : Value), (∀ o, (rs.take (j + 1)).foldl bS none = o → (o = none ∧ b = .int .i64 (-1)) ∨ ∃ (k : Nat) (r : Nat × List (Nat × Bool)), o = some r ∧ rs[k]? = some r ∧ b = .int .i64 (k : Nat)) → ∀ m, ∃ j' : Nat, j' ≤ N ∧ Value.int .i64 ((j : Int) + 1) = .int .i64 (j' : Nat) ∧ Below V.heap.size V (wr.drewN m) ∧ BSt rs j' b) := fun b h m => by
        refine ⟨j + 1, by omega, by congr 1, HBw.out m, ?_⟩
        rcases h _ rfl with ⟨h1, h2⟩ | ⟨k, r, h1, h2, h3⟩
        · exact .inl ⟨h1, h2⟩
        · exact .inr ⟨k, r, h1, h2, h3⟩
      by_cases h2 : 2 ≤ r.2.length
      · rcases hst with ⟨ho, rfl⟩ | ⟨k, q, ho, hq, rfl⟩
        · have HF : Hid _ := HS.out (.int .i64 (j : Nat)) fun o e => .inr ⟨j, r, by rw [← e, hstep, ho.out, bS, if_pos ⟨h2, by show 0 < r.2.length; omega⟩], hr, rfl⟩
          have i1 : ((r.2.length : Nat) : Int) ≥ 2 := by omega
          clear HS hstep hr HA
          generalize r.2.length = ll at *
          go_wp2_with fail
          go_quiet (fail)
          go_wp2
          go_roundw
          all_goals first | exact HF.out _ | (simp [intOf]; omega)
        · obtain ⟨hkN, go', e', _, g', cap', d1', _, _, _⟩ := HA.out k q hq
          obtain rfl : go = go' := by simpa using e'
          have hki : (k : Int) < (N : Int) := by omega
          have i1 : ((r.2.length : Nat) : Int) ≥ 2 := by omega
          have i0 : ¬ (k : Int) < 0 := by omega
          by_cases hgt : q.2.length < r.2.length
          · have HF : Hid _ := HS.out (.int .i64 (j : Nat)) fun o e => .inr ⟨j, r, by rw [← e, hstep, ho.out, bS, if_pos ⟨h2, hgt⟩], hr, rfl⟩
            have i2 : ((r.2.length : Nat) : Int) > ((q.2.length : Nat) : Int) := by omega
            clear HS hstep hr HA hq ho
            generalize r.2.length = ll at *
            generalize q.2.length = lq at *
            go_wp2_with fail
            go_quiet (fail)
            go_wp2
            go_roundw
            all_goals first | exact HF.out _ | (simp [intOf]; omega)
          · have HF : Hid _ := HS.out (.int .i64 (k : Nat)) fun o e => .inr ⟨k, q, by rw [← e, hstep, ho.out, bS, if_neg (fun h => hgt h.2)], hq.out, rfl⟩
            have i2 : ¬ ((r.2.length : Nat) : Int) > ((q.2.length : Nat) : Int) := by omega
            clear HS hstep hr HA hq ho
            generalize r.2.length = ll at *
            generalize q.2.length = lq at *
            go_wp2_with fail
            go_quiet (fail)
            go_wp2
            go_roundw
            all_goals first | exact HF.out _ | (simp [intOf]; omega)
      · have i1 : ¬ ((r.2.length : Nat) : Int) ≥ 2 := by omega
        have iz : decide ((2 : Int) ≤ ((r.2.length : Nat) : Int)) = false := by simp; omega
        rcases hst with ⟨ho, rfl⟩ | ⟨k, q, ho, hq, rfl⟩
        · have HF : Hid _ := HS.out (.int .i64 (-1)) fun o e => .inl ⟨by rw [← e, hstep, ho.out, bS, if_neg (fun h => h2 h.1)], rfl⟩
          clear HS hstep hr HA
          generalize r.2.length = ll at *
          go_wp2_with fail
          go_quiet (fail)
          go_wp2
          go_roundw
          all_goals first | exact HF.out _ | (simp [intOf]; omega)
        · have HF : Hid _ := HS.out (.int .i64 (k : Nat)) fun o e => .inr ⟨k, q, by rw [← e, hstep, ho.out, bS, if_neg (fun h => h2 h.1)], hq.out, rfl⟩
          clear HS hstep hr HA hq ho
          generalize r.2.length = ll at *
          go_wp2_with fail
          go_quiet (fail)
          go_wp2
          go_roundw
          all_goals first | exact HF.out _ | (simp [intOf]; omega)
    · obtain rfl : j = N := by omega
      have hfull : (rs.take j).foldl bS none = bstY rs := by rw [show rs.take j = rs from by rw [← HN.out, List.take_length]]; rfl
      rcases hst with ⟨ho, rfl⟩ | ⟨k, q, ho, hq, rfl⟩
      · have HZ : Hid (RetBe w (bstY rs) (.returned (.tuple #[.slice none 0 0, .int .i64 0, .bool false])) wr) := by
          have e : bstY rs = none := by rw [← hfull]; exact ho.out
          show RetBe _ _ _ _
          rw [e]
          exact ⟨rfl, HBf⟩
        clear HA hfull
        go_wp2
        exact bodyPost_ret (v := .tuple #[.slice none 0 0, .int .i64 0, .bool false]) (by simp [results, Tryd.results26, go_sem]) rfl HZ.out
      · obtain ⟨hkN, go, rfl, hgo, g, cap, d1, d0, hrd, hcap⟩ := HA.out k q hq
        have hki : (k : Int) < (j : Int) := by omega
        have i0 : ¬ (k : Int) < 0 := by omega
        have hq2 : 2 ≤ q.2.length := bst_two rs (by rw [← hfull]; exact ho.out)
        have HZ : Hid (∀ m, RetBe w (bstY rs) (.returned (.tuple #[.slice (some ⟨g, 0, none⟩) (min q.2.length 16) cap, .int .i64 (q.1 : Nat), .bool true])) (wr.drewN m)) := fun m => by
          have e : bstY rs = some q := by rw [← hfull]; exact ho.out
          rw [e]
          exact ⟨⟨g, cap, rfl, hrd.below (below_drewN (Below.refl _ _) m), hq2, hcap⟩, below_drewN HBf m⟩
        have em : min (q.2.length : Int) 16 = ((min q.2.length 16 : Nat) : Int) := by omega
        have hle : min q.2.length 16 ≤ cap := by omega
        clear HA hfull hrd ho hq
        obtain ⟨qf, ql⟩ := q
        dsimp only at *
        generalize min ql.length 16 = mm at *
        generalize ql.length = ll at *
        go_wp2_with fail
        go_quiet (fail)
        go_wp2
        exact bodyPost_ret (v := .tuple #[.slice (some ⟨g, 0, none⟩) mm cap, .int .i64 (qf : Nat), .bool true]) (by simp [results, Tryd.results26, go_sem]) rfl (HZ.out _)
end Go.Proofs.YthbmfnibgjlkhaaDoor
