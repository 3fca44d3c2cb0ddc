/- The iterator of Runs: the walk. -/
import Derived.Test.YthbmfnibgjlkhaaDoorRn
namespace Go.Proofs.YthbmfnibgjlkhaaDoor
open Go.RowKit Go.Shelf K
attribute [local go_sem] Oper.semAt_some
theorem pt_size (c : Int) : ∀ (x u : Tre), u ∈ pt c x → u.size ≤ x.size
  | .leaf n, u, h => by
    simp [pt] at h
    subst h
    exact Nat.le_refl _
  | .two k x y, u, h => by
    unfold pt at h
    split at h
    · rcases List.mem_append.1 h with h | h
      · have := pt_size c x u h; simp [Tre.size]; omega
      · have := pt_size c y u h; simp [Tre.size]; omega
    · simp at h
      subst h
      exact Nat.le_refl _
  | .rep x l m z, u, h => by
    simp [pt] at h
    subst h
    exact Nat.le_refl _
set_option maxRecDepth 100000 in
set_option maxHeartbeats 4000000 in
theorem runs_seq (m : Nat) (hm : 4 ≤ m) (x : Tre) (ox : x.ok = true) (sx : x.size ≤ 2048) (hwf : ∀ (i : Nat) (u : Tre), (pt 3 x)[i]? = some u → wfN (nodes u (u.size - 1))) (bp b2 b3 b5 bf : Nat) (ac : Addr) (ca : Nat) (Old : Nat → Prop) (w : World) (hT : Tab w) (kp : Cl w bp 85 [.func (.func 80) #[] #[.pointer (some ⟨b2, 0, none⟩), .pointer (some ⟨b3, 0, none⟩), .pointer (some ⟨b5, 0, none⟩)]]) (k2 : Cl w b2 48 [.slice (some ac) x.size ca]) (hr : RdN w (some ac) x.size (nodes x)) (hca : x.size ≤ ca) (k3 : Cl w b3 3 [.int .i64 3]) (k5 : Cl w b5 42 [.slice (some ⟨bf, 0, none⟩) x.size x.size]) (kf : Cl w bf 3 (ints (stF x) x.size)) (h0o : Old 0) (h2 : Old b2) (h3 : Old b3) (h5 : Old b5) (hf : Old bf) (ha : Old ac.block) :
    SeqO Fence.wide m Tryd.prog Old 49 #[.pointer (some ⟨bp, 0, none⟩)] (VRu w (ptL x) (pt 3 x).length) (runsY (ptL x) (pt 3 x).length).length w := by
  intro l J W hb hWs hBe hY h0
  have kWp := kp.below hb
  have kW2 := k2.below hb
  have kW3 := k3.below hb
  have kW5 := k5.below hb
  have kWf := kf.below hb
  have rW := hr.below hb
  have tW : Tab W := hT.below hb
  clear k2 k3 k5 kf hr hb hT kp
  simp only [List.append_toArray, List.cons_append, List.nil_append]
  refine callsIn_of_wp_marks Tryd.func49 rfl trivial ?_ rfl
  simp only [Tryd.ntmps49, List.size_toArray, List.length_cons, List.length_nil, Nat.reduceAdd, Nat.reduceSub, Array.replicate_succ, Array.replicate_zero, List.push_toArray, List.append_toArray, List.nil_append, List.cons_append]
  have hbW : Below W.heap.size W (((W.alloc (.cells #[.func (.yield l) #[] #[]] 83)).alloc (.cells #[.slice none 0 0] 34)).alloc (.cells #[.int .i64 0] 3)) := ((below1 W _).alloc (by simp) _).alloc (by simp; omega) _
  have hs3 : (((W.alloc (.cells #[.func (.yield l) #[] #[]] 83)).alloc (.cells #[.slice none 0 0] 34)).alloc (.cells #[.int .i64 0] 3)).heap.size = W.heap.size + 3 := by simp
  have Ky : Cl (((W.alloc (.cells #[.func (.yield l) #[] #[]] 83)).alloc (.cells #[.slice none 0 0] 34)).alloc (.cells #[.int .i64 0] 3)) W.heap.size 83 [.func (.yield l) #[] #[]] := ((Cl.new W 83 [.func (.yield l) #[] #[]]).alloc _).alloc _
  have Kr : Cl (((W.alloc (.cells #[.func (.yield l) #[] #[]] 83)).alloc (.cells #[.slice none 0 0] 34)).alloc (.cells #[.int .i64 0] 3)) (W.heap.size + 1) 34 [.slice none 0 0] := by
    have := (Cl.new (W.alloc (.cells #[.func (.yield l) #[] #[]] 83)) 34 [.slice none 0 0]).alloc (.cells #[.int .i64 0] 3)
    simpa only [World.size_alloc] using this
  have Ka : Cl (((W.alloc (.cells #[.func (.yield l) #[] #[]] 83)).alloc (.cells #[.slice none 0 0] 34)).alloc (.cells #[.int .i64 0] 3)) (W.heap.size + 2) 3 [.int .i64 ((0 : Nat) : Int)] := by
    have := Cl.new ((W.alloc (.cells #[.func (.yield l) #[] #[]] 83)).alloc (.cells #[.slice none 0 0] 34)) 3 [.int .i64 0]
    simp only [World.size_alloc] at this
    exact this
  have d1 := (kWp.below hbW).cell 0 rfl
  have hbp := kWp.lt
  gi_wp2_with fail
  have I0 : RI (ptL x) l W.heap.size J 0 (fun _ => False) (((W.alloc (.cells #[.func (.yield l) #[] #[]] 83)).alloc (.cells #[.slice none 0 0] 34)).alloc (.cells #[.int .i64 0] 3)) (.slice none 0 0) := ⟨hBe 0 _ _ W _ h0 (TurnO.of_below hbW) (fun k hk h => by rcases h with h | h | h; exact h; omega; simp [Value.ownBlock] at h), Ky, Kr, Ka, World.ownsRow_nil _ _ _ _, fun k hk => by simp [Value.ownBlock] at hk, fun k hk => hk.elim, Nat.le_of_eq hs3.symm, tW.below hbW, fun _ => rfl⟩
  have q2 := kW2.below hbW
  have q3 := kW3.below hbW
  have q5 := kW5.below hbW
  have qf := kWf.below hbW
  have qr := rW.below hbW
  have hblk : b2 < W.heap.size ∧ b3 < W.heap.size ∧ b5 < W.heap.size ∧ bf < W.heap.size ∧ ac.block < W.heap.size := by
    obtain ⟨bb, off, e, hlt, _⟩ := rW x.size_pos
    obtain rfl := Option.some.inj e
    exact ⟨kW2.lt, kW3.lt, kW5.lt, kWf.lt, hlt⟩
  clear d1 Ky Kr Ka
  generalize ((W.alloc (.cells #[.func (.yield l) #[] #[]] 83)).alloc (.cells #[.slice none 0 0] 34)).alloc (.cells #[.int .i64 0] 3) = V at *
  have hseq := parts_seq (m - 1) (by omega) x ox sx 3 b2 b3 b5 bf ac ca (fun k => k = b2 ∨ k = b3 ∨ k = b5 ∨ k = bf ∨ k = ac.block) V q2 qr hca q3 q5 qf (.inl rfl) (.inr (.inr (.inl rfl))) (.inr (.inr (.inr (.inl rfl)))) (.inr (.inr (.inr (.inr rfl))))
  clear kW2 kW3 kW5 kWf rW q2 q3 q5 qf qr kWp tW
  refine wpIn_rangeFunc_own_steps (n := m) rfl (by omega) (gf := 80) (lb := #[.pointer (some ⟨b2, 0, none⟩), .pointer (some ⟨b3, 0, none⟩), .pointer (some ⟨b5, 0, none⟩)]) rfl trivial (enters_of Tryd.func80 (by kernel_rfl) rfl) (fun k => k = b2 ∨ k = b3 ∨ k = b5 ∨ k = bf ∨ k = ac.block) (fun k hk => by rw [hs3]; rcases hk with h | h | h | h | h <;> omega) hseq (fun i O vs W h => by obtain ⟨u, g, cap, _, rfl, _⟩ := h; rfl)
    (fun i O A => ∃ v, RI (ptL x) l W.heap.size J i O A v) ?bears ?turn ⟨_, I0⟩
    (fun i O vs a' A => ∃ nb u g cap, (pt 3 x)[i]? = some u ∧ Cl A nb 48 [.slice (some ⟨g, 0, none⟩) u.size cap] ∧ RdN A (some ⟨g, 0, none⟩) u.size (nodes u) ∧ u.size ≤ cap ∧ (V.heap.size + 2 ≤ g ∧ g < A.heap.size) ∧ V.heap.size + 2 ≤ nb ∧ Fr49 l bp W.heap.size nb a'.tmps ∧ a'.defers = []) ?axst ?assign ?body ?done
  case bears =>
    rintro i O O' A B ⟨v, h⟩ ht ho
    exact ⟨v, h.bears hBe ht ho⟩
  case turn =>
    rintro i O A B ⟨v, h⟩ ht
    exact ⟨v, h.turn hBe (by rwa [hs3] at ht)⟩
  case axst =>
    rintro i O vs a' A B ⟨nb, u, g, cap, q1, q2, q3, q4, ⟨q6, q7⟩, q8, q9⟩ ht
    exact ⟨nb, u, g, cap, q1, by unfold Cl; rw [ht.block nb q2.lt (.inr q8)]; exact q2, q3.at_blocks (ht.block g q7 (.inr q6)) ht.size, q4, ⟨q6, Nat.lt_of_lt_of_le q7 ht.size⟩, q8, q9⟩
  case assign =>
    rintro i O vs Wc K hi ⟨v, hI⟩ ⟨u, g, cap, hpt, rfl, hr, hcap, hO, hg2, hgl⟩ hsz hOlt hK
    have hbA := below1 Wc (.cells #[.slice (some ⟨g, 0, none⟩) u.size cap] 48)
    have HK : Hid (∀ tm, Fr49 l bp W.heap.size Wc.heap.size tm → K ⟨tm, []⟩ (Wc.alloc (.cells #[.slice (some ⟨g, 0, none⟩) u.size cap] 48))) := fun tm h => hK _ _ ⟨by simp, fun j hj _ => hbA.block j hj⟩ ⟨v, hI.bears hBe (TurnO.of_below hbA) (fun _ _ h => h)⟩ ⟨Wc.heap.size, u, g, cap, hpt, Cl.new _ _ _, hr.below hbA, hcap, ⟨hg2, by simp; omega⟩, by rw [hs3]; rw [hs3] at hsz; exact hsz, h, rfl⟩
    clear hK hI hr I0 hseq
    gi_wp2
    exact HK.out _ (Fr49.of _ rfl)
  case body =>
    rintro i O vs a' A hi ⟨v, hI⟩ ⟨nb, u, g, cap, hpt, kN, hr, hcap, ⟨hg2, hgl⟩, hnb, ⟨uu, hfr⟩, hdf⟩ hsz hO
    obtain ⟨tm, dfs⟩ := a'
    dsimp only at hfr hdf
    subst hfr hdf
    unfold fr49
    have hO' : ∀ k, O k → k < A.heap.size ∧ W.heap.size + 5 ≤ k := fun k hk => by have := hO k hk; omega
    have dN := kN.cell 0 rfl
    have hus : u.size ≤ 2048 := Nat.le_trans (pt_size 3 x u (List.mem_of_getElem? hpt)) sx
    have hil : i < (pt 3 x).length := (List.getElem?_eq_some_iff.1 hpt).1
    have HL := letterOf_any u (some ⟨g, 0, none⟩) cap A hr (hwf i u hpt) hus hI.tab
    have hp0 : ptL x i = ltT u := by simp [ptL, hpt]
    have hi2 : i ≤ 2048 := by
      have := pt_le 3 x
      omega
    have hi3 : (i : Int) ≤ 2048 := by omega
    have e1 : ((i + 1 : Nat) : Int) = (i : Int) + 1 := by omega
    cases hl : ltT u with
    | some y =>
      rw [hl] at HL hp0
      have HP0 : (∀ A2 v' w2, Below A.heap.size A A2 → w2.ownsRow (W.heap.size + 5) 26 2 v' ((curY (ptL x) i).length + 1) (lcs (curY (ptL x) i) ++ [.int .u8 (y.1 : Nat), .bool y.2]) → A2.grownBy w2 v.ownBlock → (v'.ownBlock = v.ownBlock ∨ v'.ownBlock = some A2.heap.size) → _) := fun A2 v' w2 a1 a2 a3 a4 => hI.push hBe hs3 hp0 hO' a1 a2 a3 a4 (fun k => k = b2 ∨ k = b3 ∨ k = b5 ∨ k = bf ∨ k = ac.block) (fun k hk => by rcases hk with h | h | h | h | h <;> omega)
      simp only [e1] at HP0
      have HP : Hid _ := HP0
      clear HP0 e1
      have hlen : (curY (ptL x) i).length + 1 ≤ 2049 := by
        have := curY_len (ptL x) i
        have := pt_le 3 x
        omega
      have HRo : Hid (∀ A2, Below A.heap.size A A2 → A2.ownsRow (W.heap.size + 5) 26 2 v (curY (ptL x) i).length (lcs (curY (ptL x) i))) := fun A2 hb => ownsRow_below hI.row hb
      have HKr : Hid (∀ A2, Below A.heap.size A A2 → A2.cell? ⟨W.heap.size + 1, 0, none⟩ = some v) := fun A2 hb => (hI.kr.below hb).cell 0 rfl
      obtain ⟨av, cv, rfl⟩ := ownsRow_slice hI.row
      have hszA := hI.sz
      obtain ⟨yb, yf⟩ := y
      dsimp only [ltV] at HL HP
      obtain ⟨i0, hii, hz0, hz1, hz2⟩ := info_parts b_letter
      clear hI hr I0 hseq hp0 hl hwf hpt kN hY h0
      generalize (curY (ptL x) i).length = cl at *
      generalize lcs (curY (ptL x) i) = lc at *
      have HB4 : Hid (∀ w2 : World, Below A.heap.size A w2 → Below A.heap.size A ((w2.alloc (.cells #[.int .u8 (yb : Nat), .bool yf] 26)).alloc (.cells #[.int .u8 (yb : Nat), .bool yf] 26))) := fun w2 hb2 => (hb2.alloc hb2.size _).alloc (Nat.le_trans hb2.size (by simp)) _
      have HN : Hid (∀ (w2 : World) (j : Nat) (z : Value), [Value.int .u8 (yb : Nat), .bool yf][j]? = some z → ((w2.alloc (.cells #[.int .u8 (yb : Nat), .bool yf] 26)).alloc (.cells #[.int .u8 (yb : Nat), .bool yf] 26)).cell? (Addr.add ⟨w2.heap.size + 1, 0, none⟩ j) = some z) := fun w2 j z hj => by
        have k9 := Cl.new (w2.alloc (.cells #[.int .u8 (yb : Nat), .bool yf] 26)) 26 [.int .u8 (yb : Nat), .bool yf]
        simp only [World.size_alloc] at k9
        have := k9.cell j hj
        have e : Addr.add ⟨w2.heap.size + 1, 0, none⟩ j = ⟨w2.heap.size + 1, j, none⟩ := by
          by_cases h0 : j = 0
          · subst h0; simp [Addr.add]
          · simp [Addr.add, h0]
        rw [e]; exact this
      gi_wp2_with (first | (refine ⟨trivial, fun hd => (by cases hd), ?_⟩; gi_at_call 50; refine (callsIn_wide.2 HL).mono ?_; rintro e w2 ⟨rfl, hb2⟩; have hb3 : Below A.heap.size A (w2.alloc (.cells #[.int .u8 (yb : Nat), .bool yf] 26)) := hb2.alloc hb2.size _; have hkr := HKr.out _ hb3) | (gi_at_builtin; refine wpListIn_append_own_at _ rfl _ _ 34 rfl (W.heap.size + 5) 26 i0 _ 2 2 Tryd.underlying34 hii hz0 hz1 hz2 rfl (by decide) _ _ _ rfl (HRo.out _ (HB4.out _ hb2)) ⟨w2.heap.size + 1, 0, none⟩ 1 1 [.int .u8 (yb : Nat), .bool yf] rfl rfl (HN.out w2) (by simp [Value.oneCell']) (by unfold maxLen; omega) (by omega) (by have := hb2.size; simp; omega) ?_; intro v' w3 hown hgr hnil' hat; obtain ⟨a9, c9, rfl⟩ := ownsRow_slice hown; obtain ⟨kB9, kA9, hk9⟩ := HP.out _ _ w3 (HB4.out _ hb2) hown hgr hat; clear hown hgr hnil' hat; obtain ⟨dB1, dB2⟩ := kB9.one; obtain ⟨dA1, dA2⟩ := kA9.one; have HK9 : Hid _ := hk9; clear hk9))
      have hz9 := HK9.out
      clear HK9
      exact ⟨hz9.1, _, hz9.2⟩
    | none =>
      rw [hl] at HL hp0
      have hszA := hI.sz
      dsimp only [ltV] at HL
      by_cases hc : curY (ptL x) i = []
      · have HP0 : (∀ A2, Below A.heap.size A A2 → _) := fun A2 a1 => hI.skip hBe hs3 hp0 hc hO' a1 (fun k => k = b2 ∨ k = b3 ∨ k = b5 ∨ k = bf ∨ k = ac.block) (fun k hk => by rcases hk with h | h | h | h | h <;> omega)
        simp only [e1] at HP0
        have HP : Hid _ := HP0
        have HKr : Hid (∀ A2, Below A.heap.size A A2 → A2.cell? ⟨W.heap.size + 1, 0, none⟩ = some v) := fun A2 hb => (hI.kr.below hb).cell 0 rfl
        have hv := hI.z hc
        subst hv
        clear HP0 e1 hI hr I0 hseq hp0 hl hwf hpt kN hY h0 hc
        gi_wp2_with (first | (refine ⟨trivial, fun hd => (by cases hd), ?_⟩; gi_at_call 50; refine (callsIn_wide.2 HL).mono ?_; rintro e w2 ⟨rfl, hb2⟩; have hb3 : Below A.heap.size A (w2.alloc (.cells #[.int .u8 0, .bool false] 26)) := hb2.alloc hb2.size _; have hkr := HKr.out _ hb3; obtain ⟨kA9, hk9⟩ := HP.out _ hb3; obtain ⟨dA1, dA2⟩ := kA9.one; have HK9 : Hid _ := hk9; clear hk9))
        have hz9 := HK9.out
        exact ⟨hz9.1, _, hz9.2⟩
      · obtain ⟨av, cv, rfl⟩ := ownsRow_slice hI.row
        have hcl : 0 < (curY (ptL x) i).length := List.length_pos_iff.2 hc
        obtain ⟨gg, rfl, hggl, hggB, _⟩ := row_cell hI.row hcl
        have hcle := curY_len (ptL x) i
        have hcap9 := ownsRow_cap hI.row
        have hry := runsY_at hil hp0 hc
        have e2 : ((i - (curY (ptL x) i).length : Nat) : Int) = (i : Int) - ((curY (ptL x) i).length : Int) := by omega
        have hown := hI.own gg (by simp [Value.ownBlock])
        have HG0 := fun A2 (a1 : Below A.heap.size A A2) => hI.give hBe hs3 hp0 hc hO' a1 Old (fun k => k = b2 ∨ k = b3 ∨ k = b5 ∨ k = bf ∨ k = ac.block) (fun k hk => by rcases hk with h | h | h | h | h <;> (subst h; refine ⟨by omega, ?_⟩; assumption)) h0o
        have HYd : Hid (∀ A2, Below A.heap.size A A2 → YieldAt Fence.wide (m - 1) Tryd.prog l #[.int .i64 ((i : Int) - ((curY (ptL x) i).length : Int)), .slice (some ⟨gg, 0, none⟩) (curY (ptL x) i).length cv] A2 fun e W' => e = .returned (.bool true) ∧ J ((stY (ptL x) i).length + 1) (fun k => O k ∨ (W.heap.size ≤ k ∧ k ≤ W.heap.size + 4)) W' ∧ KeepO (fun k => Old k ∨ O k ∨ (W.heap.size ≤ k ∧ k ≤ W.heap.size + 4)) A2 W') := fun A2 a1 =>
          hY _ _ _ A2 (List.getElem?_eq_some_iff.1 hry).1 (HG0 A2 a1).1 ⟨_, _, gg, cv, hry, by rw [e2], rdl_row (ownsRow_below hI.row a1), hcl, hcap9, fun h => by rcases h with h | h; exact hown.1 h; omega, by omega, Nat.lt_of_lt_of_le hggl a1.size⟩ (fun k hk => by rcases (HG0 A2 a1).2.1 k hk with h | h; exact h; have := a1.size; omega)
        have HG1 := fun A2 a1 W3 a2 a3 => (HG0 A2 a1).2.2 W3 a2 a3
        simp only [e1] at HG1
        have HG : Hid _ := HG1
        have HKr : Hid (∀ A2, Below A.heap.size A A2 → A2.cell? ⟨W.heap.size + 1, 0, none⟩ = some (.slice (some ⟨gg, 0, none⟩) (curY (ptL x) i).length cv) ∧ A2.cell? ⟨W.heap.size, 0, none⟩ = some (.func (.yield l) #[] #[]) ∧ A2.cell? ⟨W.heap.size + 2, 0, none⟩ = some (.int .i64 (i : Nat))) := fun A2 hb => ⟨(hI.kr.below hb).cell 0 rfl, (hI.ky.below hb).cell 0 rfl, (hI.ka.below hb).cell 0 rfl⟩
        clear HG1 HG0 e1 e2 hry hI hr I0 hseq hp0 hl hwf hpt kN hY h0 hc
        generalize (curY (ptL x) i).length = cl at *
        gi_wp2_with (first | (refine ⟨trivial, fun hd => (by cases hd), ?_⟩; gi_at_call 50; refine (callsIn_wide.2 HL).mono ?_; rintro e w2 ⟨rfl, hb2⟩; have hb3 : Below A.heap.size A (w2.alloc (.cells #[.int .u8 0, .bool false] 26)) := hb2.alloc hb2.size _; obtain ⟨hk1, hk2, hk3⟩ := HKr.out _ hb3; obtain ⟨fn, tmps, assign, body, hy, hR⟩ := HYd.out _ hb3))
        refine ⟨fun hd => (by cases hd), (round_any hR).mono ?_⟩
        rintro e W3 ⟨rfl, hJ3, hK3⟩
        obtain ⟨kB9, kA9, hk9⟩ := HG.out _ hb3 W3 hJ3 hK3
        obtain ⟨dB1, dB2⟩ := kB9.one
        obtain ⟨dA1, dA2⟩ := kA9.one
        have HK9 : Hid _ := hk9
        clear hk9 kB9 kA9 hJ3 hK3 hR hy hk1 hk2 hk3
        gi_wp2
        have hz9 := HK9.out
        exact ⟨hz9.1, _, hz9.2⟩
  case done =>
    rintro O A ⟨v, hI⟩ hD
    have hszA := hI.sz
    have hput : ∀ (B : World), B.heap[V.heap.size]? = some (.deferred (some [])) → TurnO (fun k => O k ∨ (W.heap.size ≤ k ∧ k ≤ W.heap.size + 4)) B (B.putObj V.heap.size (.deferred none)) := fun B hB => ⟨rfl, rfl, rfl, by simp, fun k _ hn => World.putObj_heap_other (fun e => hn (.inr (by omega)))⟩
    by_cases hc : curY (ptL x) (pt 3 x).length = []
    · have hv := hI.z hc
      subst hv
      have dR := hI.kr.cell 0 rfl
      have hJ9 : J (runsY (ptL x) (pt 3 x).length).length (fun k => O k ∨ (W.heap.size ≤ k ∧ k ≤ W.heap.size + 4)) (A.putObj V.heap.size (.deferred none)) := by
        rw [runsY_len_nil hc]
        refine hBe _ _ _ A _ hI.inv ((hput A hD).mono fun k _ h => ?_) (fun k _ h => ?_)
        · rcases h with h | h
          · exact .inl h
          · exact .inr (.inl h)
        · rcases h with h | h
          · exact .inl h
          · exact .inr (.inl h)
      have HJ : Hid _ := hJ9
      clear hJ9 hput hI I0 hseq hY h0 hwf
      gi_wp2
      refine ⟨by simp, .inl ⟨_, _, rfl, run_takeDeferred hD, ?_⟩⟩
      exact ⟨_, results_none rfl _ _ _, ⟨_, rfl⟩, _, HJ.out⟩
    · obtain ⟨av, cv, rfl⟩ := ownsRow_slice hI.row
      have hcl : 0 < (curY (ptL x) (pt 3 x).length).length := List.length_pos_iff.2 hc
      obtain ⟨gg, rfl, hggl, hggB, _⟩ := row_cell hI.row hcl
      have hcle := curY_len (ptL x) (pt 3 x).length
      have hcap9 := ownsRow_cap hI.row
      have hry := runsY_last hc
      have e2 : (((pt 3 x).length - (curY (ptL x) (pt 3 x).length).length : Nat) : Int) = ((pt 3 x).length : Int) - ((curY (ptL x) (pt 3 x).length).length : Int) := by omega
      have hown := hI.own gg (by simp [Value.ownBlock])
      have dR := hI.kr.cell 0 rfl
      have dY := hI.ky.cell 0 rfl
      have dA := hI.ka.cell 0 rfl
      have hJ1 : J (stY (ptL x) (pt 3 x).length).length (fun k => (O k ∨ (W.heap.size ≤ k ∧ k ≤ W.heap.size + 4)) ∧ k < A.heap.size) A := hBe _ _ _ A A hI.inv ⟨rfl, rfl, rfl, Nat.le_refl _, fun _ _ _ => rfl⟩ (fun k _ h => by
        rcases h.1 with h | h
        · exact .inl h
        · exact .inr (.inl h))
      have hVD := (Array.getElem?_eq_some_iff.1 hD).1
      obtain ⟨fn, tmps, assign, body, hy, hR⟩ := hY _ _ #[.int .i64 (((pt 3 x).length : Int) - ((curY (ptL x) (pt 3 x).length).length : Int)), .slice (some ⟨gg, 0, none⟩) (curY (ptL x) (pt 3 x).length).length cv] A (List.getElem?_eq_some_iff.1 hry).1 hJ1 ⟨_, _, gg, cv, hry, by rw [e2], rdl_row hI.row, hcl, hcap9, fun h => by rcases h.1 with h | h; exact hown.1 h; omega, by omega, hggl⟩ (fun k hk => hk.2)
      have hpt9 := pt_le 3 x
      have HJ : Hid (∀ W3, J ((stY (ptL x) (pt 3 x).length).length + 1) (fun k => (O k ∨ (W.heap.size ≤ k ∧ k ≤ W.heap.size + 4)) ∧ k < A.heap.size) W3 → KeepO (fun k => Old k ∨ (O k ∨ (W.heap.size ≤ k ∧ k ≤ W.heap.size + 4)) ∧ k < A.heap.size) A W3 → W3.heap[V.heap.size]? = some (.deferred (some [])) ∧ J (runsY (ptL x) (pt 3 x).length).length (fun k => (O k ∨ (W.heap.size ≤ k ∧ k ≤ W.heap.size + 4)) ∧ k < A.heap.size) (W3.putObj V.heap.size (.deferred none))) := by
        intro W3 hJ hK
        have hD3 := (hK.2 V.heap.size hVD (.inr ⟨.inr (by omega), hVD⟩)).trans hD
        refine ⟨hD3, ?_⟩
        rw [runsY_len_one hc]
        exact hBe _ _ _ W3 _ hJ ⟨rfl, rfl, rfl, by simp, fun k _ hn => World.putObj_heap_other (fun e => hn ⟨.inr (by omega), by omega⟩)⟩ (fun k _ h => h)
      clear hput hI I0 hseq hY h0 hwf hJ1 hry hown e2
      generalize (curY (ptL x) (pt 3 x).length).length = cl at *
      gi_wp2
      refine ⟨fun hd => (by cases hd), hR.mono ?_⟩
      rintro e W3 ⟨rfl, hJ3, hK3⟩
      obtain ⟨hD3, hJ9⟩ := HJ.out W3 hJ3 hK3
      rw [hs3] at hD3 hJ9
      have HJ9 : Hid _ := hJ9
      clear hJ9 hJ3 hK3 hR hy dR dY dA hD
      gi_wp2
      refine ⟨by simp, .inl ⟨_, _, rfl, run_takeDeferred hD3, ?_⟩⟩
      exact ⟨_, results_none rfl _ _ _, ⟨_, rfl⟩, _, HJ9.out⟩
end Go.Proofs.YthbmfnibgjlkhaaDoor
