/- TreeTells: the walk. -/
import Derived.Test.YtgedhjflminlbaaWf
import Derived.Test.YtgedhjflminlbaaRg
import Derived.Test.YtgedhjflminlbaaRa
import Derived.Test.YtgedhjflminlbaaLi
import Derived.Test.YtgedhjflminlbaaMw
import Derived.Test.YtgedhjflminlbaaSm
import Derived.Deep.DeepCutAuto
import Derived.Deep.RegionHeld3
namespace Go.Proofs.Ytgedhjflminlbaa
open Go.RowKit
/-- The subtree of a node, if there is one. -/
def sbU (t : Tre) (x : Int) : Option Tre := if 0 ≤ x then t.subs[x.toNat]? else none
def sbN (t : Tre) (x : Int) : Nat := match sbU t x with | some u => u.size | none => 0
def sbF (t : Tre) (x : Int) : Nat → Nd := match sbU t x with | some u => nodes u | none => nodes t
def sbB (t : Tre) (x : Int) : Bool := (sbU t x).isSome
/-- What both Subs answer. -/
def RetS2 (w : World) (m : Nat) (H : Nat → Nd) (b : Bool) (e : Ending) (w' : World) : Prop := ∃ ao cap, e = .returned (.tuple #[.agg #[.slice ao m cap], .bool b]) ∧ RdN w' ao m H ∧ Below w.heap.size w w'
theorem ret_s2 {w : World} {t : Tre} {x : Int} {e : Ending} {w' : World} (h : RetSb w t x e w') : RetS2 w (sbN t x) (sbF t x) (sbB t x) e w' := by
  obtain ⟨h1, h2, h3⟩ := h
  cases hu : sbU t x with
  | none =>
    have hx : x < 0 ∨ (t.size : Int) ≤ x := by
      unfold sbU at hu
      split at hu
      · right
        have := List.getElem?_eq_none_iff.1 hu
        rw [Tre.subs_length] at this
        omega
      · left; omega
    refine ⟨none, 0, ?_, ?_, h3⟩
    · simp only [sbN, sbB, hu]; exact h1 hx
    · simp only [sbN, hu]; intro h0; omega
  | some u =>
    have hx : 0 ≤ x ∧ t.subs[x.toNat]? = some u := by
      unfold sbU at hu
      split at hu
      · exact ⟨by assumption, hu⟩
      · cases hu
    obtain ⟨ao, cap, he, ho⟩ := h2 u hx.1 hx.2
    refine ⟨ao, cap, ?_, ?_, h3⟩
    · simp only [sbN, sbB, hu]; exact he
    · simp only [sbN, sbF, hu]; exact ho.rd
theorem sbN_le (t : Tre) (x : Int) (hs : t.size ≤ 2048) : sbN t x ≤ 2048 := by
  unfold sbN sbU
  split
  · rename_i u h
    split at h
    · have := (subs_sub t _ u h).1
      have := (subs_sub t _ u h).2.1
      omega
    · cases h
  · omega
/-- Where the parts lie. -/
def LG (ts : List Tre) (g : Nat) (W : World) : Prop := ∀ (p : Nat) (u : Tre), ts[p]? = some u → ∃ gp cp, W.cell? ⟨g, p, none⟩ = some (.slice (some ⟨gp, 0, none⟩) u.size cp) ∧ RdN W (some ⟨gp, 0, none⟩) u.size (nodes u) ∧ u.size ≤ cp
theorem LG.below {ts : List Tre} {g : Nat} {W W' : World} (h : LG ts g W) (hg : g < W.heap.size) (hb : Below W.heap.size W W') : LG ts g W' := by
  intro p u hu
  obtain ⟨gp, cp, e, hr, hc⟩ := h p u hu
  refine ⟨gp, cp, ?_, hr.below hb, hc⟩
  rw [← e, World.cell?, World.cell?, hb.block g hg]
/-- What both Parts answer, as it lasts. -/
def RetP2 (w : World) (ts : List Tre) (e : Ending) (w' : World) : Prop := ∃ g cap, e = .returned (.slice (some ⟨g, 0, none⟩) ts.length cap) ∧ (∀ W, Below w'.heap.size w' W → LG ts g W ∧ g < W.heap.size) ∧ Below w.heap.size w w'
theorem ret_p2 {w : World} {t : Tre} {c : Int} {e : Ending} {w' : World} (h : RetPs w t c e w') : RetP2 w (pt c t) e w' := by
  obtain ⟨ao, cap, M, rfl, hrow, htrs, hb⟩ := h
  obtain ⟨g, e, hl, hB, hc, _⟩ := row_cell hrow (pt_pos c t)
  subst e
  refine ⟨g, cap, rfl, fun W hW => ⟨LG.below (fun p u hu => ?_) hl hW, Nat.lt_of_lt_of_le hl hW.size⟩, hb⟩
  have hp : p < (pt c t).length := (List.getElem?_eq_some_iff.1 hu).1
  obtain ⟨gp, cp, e', hr, hc', _⟩ := htrs p u hp hu
  exact ⟨gp, cp, by rw [hc p _ (vals_get M hp), e'], hr, hc'⟩
theorem pt_sz (c : Int) : ∀ (t u : Tre), u ∈ pt c t → u.size ≤ t.size
  | .leaf n, u, h => by simp [pt] at h; rw [h]; exact Nat.le_refl _
  | .two k x y, u, h => by
    unfold pt at h
    split at h
    · rcases List.mem_append.1 h with h | h
      · have := pt_sz c x u h; simp [Tre.size]; omega
      · have := pt_sz c y u h; simp [Tre.size]; omega
    · simp at h; rw [h]; exact Nat.le_refl _
  | .rep x l m z, u, h => by simp [pt] at h; rw [h]; exact Nat.le_refl _
theorem eqN_self (F : Nat → Nd) (n : Nat) : (decide (n = n) && eqN F F n) = true := by
  rw [eqN_iff.2 fun _ _ => rfl]; simp
set_option maxRecDepth 10000 in
set_option maxHeartbeats 8000000 in
theorem ttells_any (a : Option Addr) (n c : Nat) (F : Nat → Nd) (x kd : Int) (w : World) (ha : RdN w a n F) (hn : (n : Int) ≤ 9223372036854775807) (hca : n ≤ c) (hx : x ≤ 9223372036854775807) : Calls Try.prog 4 #[.agg #[.slice a n c], .int .i64 x, .int .i64 kd] w (RetBo w true) := by
  obtain ⟨ox, sx⟩ := snd_ok F n
  have kP := Cl.new w 24 [.slice a n c]
  have hW0 := below1 w (.cells #[.slice a n c] 24)
  have HL : Hid (∀ W, Calls Try.prog 9 #[] W (RetBo W true)) := fun W => live_any W
  have HW : Hid (∀ W, RdN W a n F → Calls Try.prog 21 #[.agg #[.slice a n c]] W fun e w' => e = .returned (.tuple #[.int .i64 (wl (snd F n)), .int .i64 (wg (snd F n))]) ∧ Below W.heap.size W w') := fun W h => widths_any a n c F W h hn hca
  have HW2 : Hid (∀ W, RdN W a n F → Calls Try.prog 22 #[.agg #[.slice a n c]] W fun e w' => e = .returned (.tuple #[.int .i64 (wl (snd F n)), .int .i64 (wg (snd F n))]) ∧ Below W.heap.size W w') := fun W h => rwidths_any a n c F W h hn hca
  have HS : Hid (∀ W, RdN W a n F → Calls Try.prog 23 #[.agg #[.slice a n c], .int .i64 x] W (RetS2 W (sbN (snd F n) x) (sbF (snd F n) x) (sbB (snd F n) x))) := fun W h => (sub_any a n c F x W h hn hca).mono fun _ _ => ret_s2
  have HS2 : Hid (∀ W, RdN W a n F → Calls Try.prog 24 #[.agg #[.slice a n c], .int .i64 x] W (RetS2 W (sbN (snd F n) x) (sbF (snd F n) x) (sbB (snd F n) x))) := fun W h => (rsub_any a n c F x W h hn hca hx).mono fun _ _ => ret_s2
  have HPs : Hid (∀ W, RdN W a n F → Calls Try.prog 25 #[.agg #[.slice a n c], .int .i64 kd] W (RetP2 W (pt kd (snd F n)))) := fun W h => (lparts_any a n c F kd W h hn hca).mono fun _ _ => ret_p2
  have HPs2 : Hid (∀ W, RdN W a n F → Calls Try.prog 26 #[.agg #[.slice a n c], .int .i64 kd] W (RetP2 W (pt kd (snd F n)))) := fun W h => (rparts_any a n c F kd W h hn hca).mono fun _ _ => ret_p2
  have HC : Hid (∀ W, RdN W a n F → Calls Try.prog 27 #[.agg #[.slice a n c]] W (RetI W (chkE F n))) := fun W h => check_any a n c F W h hn
  have HC2 : Hid (∀ W, RdN W a n F → Calls Try.prog 28 #[.agg #[.slice a n c]] W (RetI W (chkE F n))) := fun W h => rcheck_any a n c F W h hn
  have HT : Hid (∀ W, RdN W a n F → Calls Try.prog 29 #[.agg #[.slice a n c]] W (RetI W (wt (snd F n)))) := fun W h => weight_any a n c F W h hn hca
  have HT2 : Hid (∀ W, RdN W a n F → Calls Try.prog 30 #[.agg #[.slice a n c]] W (RetI W (wt (snd F n)))) := fun W h => rweight_any a n c F W h hn hca
  generalize snd F n = t at *
  generalize wl t = L at *
  generalize wg t = G at *
  generalize wt t = T at *
  generalize chkE F n = E at *
  have hsN := sbN_le t x sx
  have HSm : Hid (∀ W ao bo ca cb (H : Nat → Nd) (m : Nat), m ≤ 2048 → RdN W ao m H → RdN W bo m H → Calls Try.prog 10 #[.agg #[.slice ao m ca], .agg #[.slice bo m cb]] W (RetBo W true)) := fun W ao bo ca cb H m hm h1 h2 => by
    have := rsame_any ao bo m m ca cb H H W h1 h2 (by omega)
    rwa [eqN_self] at this
  have hple := pt_le kd t
  have hpsz : ∀ u ∈ pt kd t, u.size ≤ 2048 := fun u hu => Nat.le_trans (pt_sz kd t u hu) sx
  generalize sbN t x = sN at *
  generalize sbF t x = sF at *
  generalize sbB t x = sB at *
  generalize pt kd t = ts at *
  go_enter Try.func4, Try.ntmps4
  go_upto_region 3 with (go_at_call 9; refine (HL.out _).mono ?_; rintro e w1 ⟨rfl, hb1⟩)
  have hB1 := hW0.trans (hb1.mono (by simp))
  have kP1 := kP.below hb1
  have rA := ha.below hB1
  have d1 := kP1.cell 0 rfl
  clear kP hW0 ha hb1 HL
  go_upto_region 4 with (go_at_call 21; refine (HW.out _ rA).mono ?_; rintro e w2 ⟨rfl, b2⟩; have kP2 := kP1.below b2; have rA2 := rA.below b2; have hB2 := hB1.trans (b2.mono hB1.size); clear HW kP1 rA b2 hB1)
  have d2 := kP2.cell 0 rfl
  clear d1
  go_upto_region 5 with (go_at_call 22; refine (HW2.out _ rA2).mono ?_; rintro e w3 ⟨rfl, b3⟩; have kP3 := kP2.below b3; have rA3 := rA2.below b3; have hB3 := hB2.trans (b3.mono hB2.size); clear HW2 kP2 rA2 b3 hB2)
  have d3 := kP3.cell 0 rfl
  clear d2
  go_upto_region 6 with (go_at_call 23; refine (HS.out _ rA3).mono ?_; rintro e w4 ⟨ao, cap, rfl, rS, b4⟩; have b5 := b4.trans ((below1 w4 (.cells #[.slice ao sN cap] 24)).mono b4.size); have kP4 := kP3.below b5; have rA4 := rA3.below b5; have hB4 := hB3.trans (b5.mono hB3.size); have kX := Cl.new w4 24 [.slice ao sN cap]; have rX := rS.below (below1 w4 (.cells #[.slice ao sN cap] 24)); clear HS kP3 rA3 b4 b5 hB3 rS)
  clear d3
  obtain ⟨X, hX⟩ : ∃ X, X = w4.heap.size := ⟨_, rfl⟩
  rw [← hX] at kX ⊢
  clear hX
  generalize w4.alloc (.cells #[.slice ao sN cap] 24) = w5 at *
  have d4 := kP4.cell 0 rfl
  go_wp2_with fail
  refine (HS2.out _ rA4).mono ?_
  rintro e w6 ⟨ay, cay, rfl, rS, b4⟩
  have b5 := b4.trans ((below1 w6 (.cells #[.slice ay sN cay] 24)).mono b4.size)
  have kP6 := kP4.below b5
  have rA6 := rA4.below b5
  have hB6 := hB4.trans (b5.mono hB4.size)
  have kX6 := kX.below b5
  have rX6 := rX.below b5
  have kY := Cl.new w6 24 [.slice ay sN cay]
  have rY := rS.below (below1 w6 (.cells #[.slice ay sN cay] 24))
  clear HS2 kP4 rA4 kX rX b4 b5 hB4 rS
  go_upto_region 7 with fail
  clear d4
  obtain ⟨Y, hY⟩ : ∃ Y, Y = w6.heap.size := ⟨_, rfl⟩
  rw [← hY] at kY ⊢
  clear hY
  generalize w6.alloc (.cells #[.slice ay sN cay] 24) = w7 at *
  have HX : Hid (∀ W, Below w7.heap.size w7 W → (W.cell? ⟨w.heap.size, 0, none⟩ = some (.slice a n c) ∧ W.cell? ⟨X, 0, none⟩ = some (.slice ao sN cap) ∧ W.cell? ⟨Y, 0, none⟩ = some (.slice ay sN cay)) ∧ RdN W a n F ∧ RdN W ao sN sF ∧ RdN W ay sN sF) := fun W hW => ⟨⟨(kP6.below hW).cell 0 rfl, (kX6.below hW).cell 0 rfl, (kY.below hW).cell 0 rfl⟩, rA6.below hW, rX6.below hW, rY.below hW⟩
  clear kP6 kX6 kY rA6 rX6 rY
  go_cut [15, 16] (fun v v' wx => ∃ g c1 g' c2, v = .slice (some ⟨g, 0, none⟩) ts.length c1 ∧ v' = .slice (some ⟨g', 0, none⟩) ts.length c2 ∧ (∀ W, Below wx.heap.size wx W → (LG ts g W ∧ g < W.heap.size) ∧ LG ts g' W ∧ g' < W.heap.size) ∧ Below w7.heap.size w7 wx)
  case first =>
    have tBd : Below w7.heap.size w7 w7.drew := (Below.refl _ _).drew
    obtain ⟨⟨d0, _⟩, ra, _⟩ := HX.out _ tBd
    have TB : Hid _ := tBd
    clear tBd
    go_region_held3 (fun w' => w'.cell? ⟨w.heap.size, 0, none⟩ = some (.slice a n c)) (exact d0)
      (first
        | (go_at_call 25; refine (HPs.out _ ra).mono ?_; rintro e w9 ⟨g, c1, rfl, L, qq⟩; have L5 : Hid _ := L; have tB := TB.out.trans (qq.mono TB.out.size); (first | (have L7 : Hid (∀ W, Below w9.heap.size w9 W → LG ts g' W ∧ g' < W.heap.size) := fun W hW => L6.out W (qq.trans (hW.mono qq.size)); clear L6) | skip); clear L TB qq d0 ra; obtain ⟨⟨d0, _⟩, ra, _⟩ := HX.out _ tB; have TB : Hid _ := tB; clear tB)
        | (go_at_call 26; refine (HPs2.out _ ra).mono ?_; rintro e w9 ⟨g', c2, rfl, L, qq⟩; have L6 : Hid _ := L; have tB := TB.out.trans (qq.mono TB.out.size); (first | (have L8 : Hid (∀ W, Below w9.heap.size w9 W → LG ts g W ∧ g < W.heap.size) := fun W hW => L5.out W (qq.trans (hW.mono qq.size)); clear L5) | skip); clear L TB qq d0 ra; obtain ⟨⟨d0, _⟩, ra, _⟩ := HX.out _ tB; have TB : Hid _ := tB; clear tB))
    all_goals
      go_wp2_with fail
      go_meet
      first
        | exact ⟨g, c1, g', c2, rfl, rfl, fun W hW => ⟨L8.out W hW, L6.out W hW⟩, TB.out⟩
        | exact ⟨g, c1, g', c2, rfl, rfl, fun W hW => ⟨L5.out W hW, L7.out W hW⟩, TB.out⟩
  case rest =>
    obtain ⟨g, c1, g', c2, rfl, rfl, hLG, hBc⟩ := hcut
    have HLg : Hid _ := hLG
    have HX2 : Hid (∀ W, Below wc.heap.size wc W → (W.cell? ⟨w.heap.size, 0, none⟩ = some (.slice a n c) ∧ W.cell? ⟨X, 0, none⟩ = some (.slice ao sN cap) ∧ W.cell? ⟨Y, 0, none⟩ = some (.slice ay sN cay)) ∧ RdN W a n F ∧ RdN W ao sN sF ∧ RdN W ay sN sF) := fun W hW => HX.out W (hBc.trans (hW.mono hBc.size))
    have HE : Hid (∀ W, Below wc.heap.size wc W → Below w.heap.size w W) := fun W hW => (hB6.trans (hBc.mono hB6.size)).trans (hW.mono (Nat.le_trans hB6.size hBc.size))
    clear HX hB6 hBc hLG HPs HPs2
    have hNs : ts.length ≤ 2048 := by omega
    have hget : ∀ q, q < ts.length → ∃ u, ts[q]? = some u := fun q hq => ⟨_, List.getElem?_eq_getElem hq⟩
    generalize ts.length = N at *
    have hnn : ((N : Int) != (N : Int)) = false := by simp
    go_wp2_with fail
    go_loopw [56] (fun i wr => ∃ q : Nat, q ≤ N ∧ i = .int .i64 (q : Nat) ∧ Below wc.heap.size wc wr) (fun i _ => N - (intOf i).toNat)
    case atStart => exact ⟨0, Nat.zero_le _, rfl, Below.refl _ _⟩
    case round =>
      obtain ⟨q, hq, rfl, hbq⟩ := hrel
      by_cases hqN : q < N
      · have hqi : (q : Int) < (N : Int) := by omega
        obtain ⟨u, hu⟩ := hget q hqN
        obtain ⟨⟨l1, _⟩, l2, _⟩ := HLg.out wr hbq
        obtain ⟨gp, cp, e1, r1, q1⟩ := l1 q u hu
        obtain ⟨gp', cp', e2, r2, q2⟩ := l2 q u hu
        have b5 := below1 wr (.cells #[.slice (some ⟨gp, 0, none⟩) u.size cp] 24)
        have hb5 := hbq.trans (b5.mono hbq.size)
        have k5 := Cl.new wr 24 [.slice (some ⟨gp, 0, none⟩) u.size cp]
        obtain ⟨⟨l3, _⟩, l4, hg4⟩ := HLg.out _ hb5
        have e3 : (wr.alloc (.cells #[.slice (some ⟨gp, 0, none⟩) u.size cp] 24)).cell? ⟨g', q, none⟩ = some (.slice (some ⟨gp', 0, none⟩) u.size cp') := by rw [b5.cell (p := ⟨g', q, none⟩) (HLg.out wr hbq).2.2]; exact e2
        have rr1 := r1.below b5
        have rr2 := r2.below b5
        have hus : u.size ≤ 2048 := hpsz u (List.mem_of_getElem? hu)
        clear l1 l2 l3 l4 e2 r1 r2 hget
        go_upto_region 13 with fail
        clear e1
        obtain ⟨XX, hXX⟩ : ∃ X, X = wr.heap.size := ⟨_, rfl⟩
        rw [← hXX] at k5 ⊢
        clear hXX b5
        generalize wr.alloc (.cells #[.slice (some ⟨gp, 0, none⟩) u.size cp] 24) = W5 at *
        have hd : Below W5.heap.size W5 W5.drew := (Below.refl _ _).drew
        have z1 := (k5.below hd).cell 0 rfl
        have z2 : W5.drew.cell? ⟨g', q, none⟩ = some (.slice (some ⟨gp', 0, none⟩) u.size cp') := by rw [hd.cell (p := ⟨g', q, none⟩) hg4]; exact e3
        have hS : W5.drew.cell? ⟨XX, 0, none⟩ = some (.slice (some ⟨gp, 0, none⟩) u.size cp) ∧ W5.drew.cell? ⟨g', q, none⟩ = some (.slice (some ⟨gp', 0, none⟩) u.size cp') := ⟨z1, z2⟩
        have HQ := HSm.out W5.drew (some ⟨gp, 0, none⟩) (some ⟨gp', 0, none⟩) cp cp' (nodes u) u.size hus (rr1.below hd) (rr2.below hd)
        have hbd := hb5.trans (hd.mono hb5.size)
        have hk5 := k5.lt
        have HS9 : Hid (∀ W, Below W5.drew.heap.size W5.drew W → W.cell? ⟨XX, 0, none⟩ = some (.slice (some ⟨gp, 0, none⟩) u.size cp) ∧ W.cell? ⟨g', q, none⟩ = some (.slice (some ⟨gp', 0, none⟩) u.size cp')) := fun W hW => ⟨by rw [hW.cell (p := ⟨XX, 0, none⟩) (Nat.lt_of_lt_of_le hk5 hd.size)]; exact z1, by rw [hW.cell (p := ⟨g', q, none⟩) (Nat.lt_of_lt_of_le hg4 hd.size)]; exact z2⟩
        clear rr1 rr2 z1 z2 e3 k5 hk5
        generalize u.size = us at *
        go_region_held3 (fun w' => w'.cell? ⟨XX, 0, none⟩ = some (.slice (some ⟨gp, 0, none⟩) us cp) ∧ w'.cell? ⟨g', q, none⟩ = some (.slice (some ⟨gp', 0, none⟩) us cp')) (exact hS)
          (first
            | (go_at_call 10; refine HQ.mono ?_; rintro e w9 ⟨rfl, qq⟩; have hb9 := hbd.trans (qq.mono hbd.size); clear hS; have hS := HS9.out _ qq; clear qq))
        all_goals
          go_wp2_with fail
          go_roundw
          case rel => exact ⟨q + 1, by omega, by simp, hb9⟩
          case measure => simp [intOf]; omega
      · have hqi : ¬ (q : Int) < (N : Int) := by omega
        have tBd : Below wc.heap.size wc wr.drew := hbq.drew
        obtain ⟨hc, ra, rx, ry⟩ := HX2.out _ tBd
        have TB : Hid _ := tBd
        have hEE : (E == E) = true := by simp
        have hLL : (L == L) = true := by simp
        have hGG : (G == G) = true := by simp
        have hTT : (T == T) = true := by simp
        have hBB : (sB == sB) = true := by simp
        clear tBd hbq HLg hget hpsz hnn
        go_upto_region 16 with fail
        go_region_held3 (fun w' => w'.cell? ⟨w.heap.size, 0, none⟩ = some (.slice a n c) ∧ w'.cell? ⟨X, 0, none⟩ = some (.slice ao sN cap) ∧ w'.cell? ⟨Y, 0, none⟩ = some (.slice ay sN cay)) (exact hc)
          (first
            | (go_at_call 27; refine (HC.out _ ra).mono ?_; rintro e w9 ⟨rfl, qq⟩; have tB := TB.out.trans (qq.mono TB.out.size); clear TB qq hc ra rx ry; obtain ⟨hc, ra, rx, ry⟩ := HX2.out _ tB; have TB : Hid _ := tB; clear tB)
            | (go_at_call 28; refine (HC2.out _ ra).mono ?_; rintro e w9 ⟨rfl, qq⟩; have tB := TB.out.trans (qq.mono TB.out.size); clear TB qq hc ra rx ry; obtain ⟨hc, ra, rx, ry⟩ := HX2.out _ tB; have TB : Hid _ := tB; clear tB)
            | (go_at_call 29; refine (HT.out _ ra).mono ?_; rintro e w9 ⟨rfl, qq⟩; have tB := TB.out.trans (qq.mono TB.out.size); clear TB qq hc ra rx ry; obtain ⟨hc, ra, rx, ry⟩ := HX2.out _ tB; have TB : Hid _ := tB; clear tB)
            | (go_at_call 30; refine (HT2.out _ ra).mono ?_; rintro e w9 ⟨rfl, qq⟩; have tB := TB.out.trans (qq.mono TB.out.size); clear TB qq hc ra rx ry; obtain ⟨hc, ra, rx, ry⟩ := HX2.out _ tB; have TB : Hid _ := tB; clear tB)
            | (go_at_call 10; refine (HSm.out _ _ _ _ _ sF sN hsN rx ry).mono ?_; rintro e w9 ⟨rfl, qq⟩; have tB := TB.out.trans (qq.mono TB.out.size); clear TB qq hc ra rx ry; obtain ⟨hc, ra, rx, ry⟩ := HX2.out _ tB; have TB : Hid _ := tB; clear tB))
        all_goals
          go_wp2_with fail
          go_ret
          exact ⟨rfl, HE.out _ TB.out⟩
end Go.Proofs.Ytgedhjflminlbaa
