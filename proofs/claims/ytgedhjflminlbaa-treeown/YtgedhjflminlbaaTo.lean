/- TreeOwn: the walk. -/
import Derived.Test.YtgedhjflminlbaaOw
import Derived.Test.YtgedhjflminlbaaMa
import Derived.Test.YtgedhjflminlbaaSm
import Derived.Deep.DeepCutAuto
import Derived.Deep.RegionWith
import Derived.Deep.RegionHeld3
namespace Go.Proofs.Ytgedhjflminlbaa
open Go.RowKit
theorem eqN_same (F : Nat → Nd) : ∀ n, eqN F F n = true
  | 0 => rfl
  | n + 1 => by
    rw [eqN, eqN_same F n]
    simp [Nd.eq_iff]
set_option maxRecDepth 10000 in
set_option maxHeartbeats 8000000 in
theorem own_any (a b : Option Addr) (n m c d : Nat) (F G : Nat → Nd) (w : World) (ha : RdN w a n F) (hb : RdN w b m G) (hn : (n : Int) ≤ 9223372036854775807) (hm : (m : Int) ≤ 9223372036854775807) (hca : n ≤ c) (hcb : m ≤ d) (hs : (n : Int) * 80 ≤ 140737488355328) (hsh : Shp a n c) : Calls Try.prog 8 #[.agg #[.slice a n c], .agg #[.slice b m d]] w (RetBo w true) := by
  have kA : Cl ((w.alloc (.cells #[.slice a n c] 24)).alloc (.cells #[.slice b m d] 24)) w.heap.size 24 [.slice a n c] := (Cl.new w 24 [.slice a n c]).alloc _
  have kB : Cl ((w.alloc (.cells #[.slice a n c] 24)).alloc (.cells #[.slice b m d] 24)) (w.heap.size + 1) 24 [.slice b m d] := by
    have := Cl.new (w.alloc (.cells #[.slice a n c] 24)) 24 [.slice b m d]
    simpa only [World.size_alloc] using this
  have hW0 := below2 w (.cells #[.slice a n c] 24) (.cells #[.slice b m d] 24)
  have HL : Hid (∀ W, Calls Try.prog 9 #[] W (RetBo W true)) := fun W => live_any W
  go_enter Try.func8, Try.ntmps8
  go_upto_region 3 with (go_at_call 9; refine (HL.out _).mono ?_; rintro e w1 ⟨rfl, hb1⟩)
  have hB1 := hW0.trans (hb1.mono (by simp; omega))
  have kA1 := kA.below hb1
  have kB1 := kB.below hb1
  have rA := ha.below hB1
  have rB := hb.below hB1
  have d0 := kA1.cell 0 rfl
  have hsz1 := hb1.size
  simp only [World.size_alloc] at hsz1
  obtain ⟨i0, hi, hz0, hz1, hz2⟩ := info_parts b_node
  clear kA kB hW0 ha hb hb1 HL
  go_cut [5] (fun v wx => ∃ ao cap, v = .slice ao n cap ∧ OwN wx w1.heap.size ao n cap F ∧ Below w1.heap.size w1 wx)
  case first =>
    rcases hsh with ⟨rfl, rfl, rfl⟩ | ⟨aa, rfl⟩
    · clear rA rB
      go_wp2_with fail
      go_meet
      exact ⟨none, 0, rfl, World.ownsRow_nil _ _ _ _, Below.refl _ _⟩
    · have hnews : ∀ j u, (ndsL F n)[j]? = some u → w1.cell? (aa.add j) = some u := by
        intro j u hj
        have hjl := (List.getElem?_eq_some_iff.1 hj).1
        rw [ndsL_len] at hjl
        obtain ⟨bb, off, e, hbb, hc⟩ := rA.cells (by omega)
        obtain rfl := Option.some.inj e
        have hcj := hc j u hj
        by_cases h0 : j = 0
        · subst h0; simpa [Addr.add] using hcj
        · simpa [Addr.add, h0] using hcj
      clear rA rB
      go_wp2_with (at_builtin; refine wpList_append_own _ rfl _ _ 22 rfl w1.heap.size 29 i0 _ 10 80 Try.underlying22 hi hz0 hz1 hz2 rfl (by decide) _ _ _ rfl (World.ownsRow_nil _ _ _ _) aa n c (ndsL F n) rfl (by simp [ndsL_len]) hnews (ndsL_oneCell F n) (by unfold maxLen; omega) (by omega) (Nat.le_refl _) ?_; intro v' w2 hown hgr hnil'; have hb2 : Below w1.heap.size w1 w2 := (Below.refl _ _).grown hgr (Nat.le_refl _) (by intro k hk; cases hk); clear hgr hnil'; replace hown : w2.ownsRow w1.heap.size 29 10 v' n (ndsL F n) := (by simpa using hown); obtain ⟨ao9, cap9, rfl⟩ := ownsRow_slice hown; have HO : Hid _ := hown; clear hown)
      go_meet
      exact ⟨_, _, rfl, HO.out, hb2⟩
  case rest =>
    obtain ⟨aw, cw, rfl, ow, hb2⟩ := hcut
    obtain ⟨w2, hw2⟩ : ∃ W, W = wc := ⟨_, rfl⟩
    subst hw2
    have kA2 := kA1.below hb2
    have kB2 := kB1.below hb2
    have rA2 := rA.below hb2
    have rB2 := rB.below hb2
    have hB2 := hB1.trans (hb2.mono hB1.size)
    clear d0 kA1 kB1 rA rB
    obtain ⟨ox, sx⟩ := snd_ok F n
    obtain ⟨oy, sy⟩ := snd_ok G m
    have HJ3 : Hid (∀ W, RdN W a n F → RdN W b m G → Calls Try.prog 13 #[.int .i64 3, .agg #[.slice a n c], .agg #[.slice b m d]] W (RetT W ((snd F n).size + (snd G m).size + 1) (nodes (.two 3 (snd F n) (snd G m))))) := fun W h1 h2 => join_yes 3 a b n m c d F G W (.inl rfl) h1 h2 hn hm hca hcb
    have HJ4 : Hid (∀ W, RdN W a n F → RdN W b m G → Calls Try.prog 13 #[.int .i64 4, .agg #[.slice b m d], .agg #[.slice a n c]] W (RetT W ((snd G m).size + (snd F n).size + 1) (nodes (.two 4 (snd G m) (snd F n))))) := fun W h1 h2 => join_yes 4 b a m n d c G F W (.inr rfl) h2 h1 hm hn hcb hca
    have HRp : Hid (∀ W, RdN W a n F → Calls Try.prog 15 #[.agg #[.slice a n c], .int .i64 0, .int .i64 1, .bool false] W (RetT W ((snd F n).size + 1) (nodes (.rep (snd F n) 0 1 false)))) := fun W h => repeat_any a n c F 0 1 false W h hn hca
    have HMi : Hid (∀ W, RdN W a n F → Calls Try.prog 17 #[.agg #[.slice a n c]] W (RetT W (snd F n).size (nodes (mir (snd F n))))) := fun W h => mirror_any a n c F W h hn hca
    have HCl : Hid (∀ W, RdN W a n F → Calls Try.prog 19 #[.agg #[.slice a n c]] W (RetT W n F)) := fun W h => tclone_any a n c F W h hs hsh
    have HSb : Hid (∀ W x, RdN W a n F → Calls Try.prog 23 #[.agg #[.slice a n c], .int .i64 x] W (RetSb W (snd F n) x)) := fun W x h => sub_any a n c F x W h hn hca
    generalize hn1 : (snd F n).size + (snd G m).size + 1 = n1 at *
    generalize hn2 : (snd G m).size + (snd F n).size + 1 = n2 at *
    generalize hn3 : (snd F n).size + 1 = n3 at *
    generalize hn4 : (snd F n).size = n4 at *
    generalize nodes (.two 3 (snd F n) (snd G m)) = f1 at *
    generalize nodes (.two 4 (snd G m) (snd F n)) = f2 at *
    generalize nodes (.rep (snd F n) 0 1 false) = f3 at *
    generalize nodes (mir (snd F n)) = f4 at *
    have HX : Hid (∀ W, Below w2.heap.size w2 W → (W.cell? ⟨w.heap.size, 0, none⟩ = some (.slice a n c) ∧ W.cell? ⟨w.heap.size + 1, 0, none⟩ = some (.slice b m d)) ∧ RdN W a n F ∧ RdN W b m G) := fun W h => ⟨⟨(kA2.below h).cell 0 rfl, (kB2.below h).cell 0 rfl⟩, rA2.below h, rB2.below h⟩
    have m1 : Hid True := trivial
    have tB : Below w2.heap.size w2 w2.drew := (Below.refl _ _).drew
    obtain ⟨hc, ra, rb⟩ := HX.out _ tB
    have TB : Hid _ := tB
    clear tB
    go_upto_region 4 with fail
    go_cut [29, 30, 31] (fun v29 v30 v31 wx => ∃ LB L, v29 = .slice (some ⟨LB, 0, none⟩) 5 5 ∧ v30 = .int .i64 5 ∧ v31 = .int .i64 0 ∧ L.length = 5 ∧ Below w2.heap.size w2 wx ∧ Sv LB w2.heap.size L wx)
    case first =>
      go_region_held3 (fun w' => w'.cell? ⟨w.heap.size, 0, none⟩ = some (.slice a n c) ∧ w'.cell? ⟨w.heap.size + 1, 0, none⟩ = some (.slice b m d)) (first | exact hc | exact hcA _)
        (first
          | (go_at_call 13; first | (clear m1; refine (HJ3.out _ ra rb).mono ?_; rintro e x1 ⟨a1, c1, rfl, o1, q1⟩; have tB := TB.out.trans (q1.mono TB.out.size); clear TB hc ra rb; obtain ⟨hc, ra, rb⟩ := HX.out _ tB; have TB : Hid _ := tB; clear tB) | (refine (HJ4.out _ ra rb).mono ?_; rintro e x2 ⟨a2, c2, rfl, o2, q2⟩; have tB := TB.out.trans (q2.mono TB.out.size); clear TB hc ra rb; obtain ⟨hc, ra, rb⟩ := HX.out _ tB; have TB : Hid _ := tB; clear tB))
          | (go_at_call 15; refine (HRp.out _ ra).mono ?_; rintro e x3 ⟨a3, c3, rfl, o3, q3⟩; have tB := TB.out.trans (q3.mono TB.out.size); clear TB hc ra rb; obtain ⟨hc, ra, rb⟩ := HX.out _ tB; have TB : Hid _ := tB; clear tB)
          | (go_at_call 17; refine (HMi.out _ ra).mono ?_; rintro e x4 ⟨a4, c4, rfl, o4, q4⟩; have tB := TB.out.trans (q4.mono TB.out.size); clear TB hc ra rb; obtain ⟨hc, ra, rb⟩ := HX.out _ tB; have TB : Hid _ := tB; clear tB)
          | (go_at_call 19; refine (HCl.out _ ra).mono ?_; rintro e x5 ⟨a5, c5, rfl, o5, q5⟩; have tB := TB.out.trans (q5.mono TB.out.size); clear TB hc ra rb; obtain ⟨hc, ra, rb⟩ := HX.out _ tB; have hcA := fun o => (HX.out _ (tB.alloc tB.size o)).1; have TB : Hid _ := tB; clear tB))
      all_goals
        go_wp2
        go_meet
        have s1 := q1.size
        have s2 := q2.size
        have s3 := q3.size
        have s4 := q4.size
        have s5 := q5.size
        have hds : w2.drew.heap.size = w2.heap.size := rfl
        rw [hds] at s1
        have p1 := fun g => own_block o1 (g := g)
        have p2 := fun g => own_block o2 (g := g)
        have p3 := fun g => own_block o3 (g := g)
        have p4 := fun g => own_block o4 (g := g)
        have p5 := fun g => own_block o5 (g := g)
        refine ⟨x5.heap.size, [.slice a1 n1 c1, .slice a2 n2 c2, .slice a3 n3 c3, .slice a4 n4 c4, .slice a5 n c5], rfl, rfl, rfl, rfl, TB.out.alloc TB.out.size _, Cl.new x5 24 _, ?_, ?_, ?_⟩
        · intro v hv
          have e5 := below1 x5 (.cells #[.slice a1 n1 c1, .slice a2 n2 c2, .slice a3 n3 c3, .slice a4 n4 c4, .slice a5 n c5] 24)
          simp only [List.mem_cons, List.not_mem_nil, or_false] at hv
          rcases hv with rfl | rfl | rfl | rfl | rfl
          · exact ⟨_, _, _, _, rfl, own_below (own_below (own_below (own_below (own_below o1 q2) q3) q4) q5) e5, by omega⟩
          · exact ⟨_, _, _, _, rfl, own_below (own_below (own_below (own_below (ownsRow_base o2 (by omega)) q3) q4) q5) e5, by omega⟩
          · exact ⟨_, _, _, _, rfl, own_below (own_below (own_below (ownsRow_base o3 (by omega)) q4) q5) e5, by omega⟩
          · exact ⟨_, _, _, _, rfl, own_below (own_below (ownsRow_base o4 (by omega)) q5) e5, by omega⟩
          · exact ⟨_, _, _, _, rfl, own_below (ownsRow_base o5 (by omega)) e5, by omega⟩
        · simp only [List.pairwise_cons, List.mem_cons, List.not_mem_nil, or_false, forall_eq_or_imp, forall_eq, List.Pairwise.nil, and_true, false_imp_iff, implies_true]
          refine ⟨⟨?_, ?_, ?_, ?_⟩, ⟨?_, ?_, ?_⟩, ⟨?_, ?_⟩, ?_⟩
          · intro g g' h1 h2; have := p1 g h1; have := p2 g' h2; omega
          · intro g g' h1 h2; have := p1 g h1; have := p3 g' h2; omega
          · intro g g' h1 h2; have := p1 g h1; have := p4 g' h2; omega
          · intro g g' h1 h2; have := p1 g h1; have := p5 g' h2; omega
          · intro g g' h1 h2; have := p2 g h1; have := p3 g' h2; omega
          · intro g g' h1 h2; have := p2 g h1; have := p4 g' h2; omega
          · intro g g' h1 h2; have := p2 g h1; have := p5 g' h2; omega
          · intro g g' h1 h2; have := p3 g h1; have := p4 g' h2; omega
          · intro g g' h1 h2; have := p3 g h1; have := p5 g' h2; omega
          · intro g g' h1 h2; have := p4 g h1; have := p5 g' h2; omega
        · intro v hv g hg
          simp only [List.mem_cons, List.not_mem_nil, or_false] at hv
          rcases hv with rfl | rfl | rfl | rfl | rfl
          · have := p1 g hg; omega
          · have := p2 g hg; omega
          · have := p3 g hg; omega
          · have := p4 g hg; omega
          · have := p5 g hg; omega
    case rest =>
      obtain ⟨LB, L, rfl, rfl, rfl, hL, hbw, hSv⟩ := hcut
      obtain ⟨w5, hw5⟩ : ∃ W, W = wc := ⟨_, rfl⟩
      subst hw5
      clear hc ra rb TB HJ3 HJ4 HRp HMi HCl m1
      have hSb0 : Hid True := trivial
      go_wp2_with fail
      go_loopw [31] (fun i wr => ∃ k : Nat, k ≤ 5 ∧ i = .int .i64 (k : Nat) ∧ Below w2.heap.size w2 wr ∧ Sv LB w2.heap.size L wr) (fun i _ => 5 - (intOf i).toNat)
      case atStart => exact ⟨0, by decide, rfl, hbw, hSv⟩
      case round =>
        obtain ⟨k, hk, rfl, hbr, hSr⟩ := hrel
        by_cases hk5 : k < 5
        · have hki : (k : Int) < 5 := by omega
          have hLk : L[k]? = some L[k] := List.getElem?_eq_getElem (by omega)
          have hmem : L[k] ∈ L := List.getElem_mem _
          generalize L[k] = v at *
          obtain ⟨ao, nk, ck, Fk, rfl, hok, hnk⟩ := hSr.own v hmem
          have dk := hSr.list.cell k hLk
          have hlx := hSr.list.lt
          have kX := Cl.new wr 24 [.slice ao nk ck]
          have hbX := hbr.alloc hbr.size (.cells #[.slice ao nk ck] 24)
          have hSX := hSr.below (below1 wr (.cells #[.slice ao nk ck] 24))
          have e7 := kX.cell 0 rfl
          clear hok Fk
          have HSX : Hid _ := hSX
          clear hSX hSr hSv
          go_wp2_with fail
          clear dk e7
          have hLX := hlx
          have hXlt : w2.heap.size ≤ wr.heap.size := hbr.size
          generalize wr.heap.size = X7 at *
          generalize wr.alloc (.cells #[.slice ao nk ck] 24) = wr1 at *
          go_loopw [38] (fun j wq => ∃ q : Nat, q ≤ nk ∧ j = .int .i64 (q : Nat) ∧ Below w2.heap.size w2 wq ∧ Sv LB w2.heap.size L wq ∧ Cl wq X7 24 [.slice ao nk ck]) (fun j _ => nk - (intOf j).toNat)
          case atStart => exact ⟨0, Nat.zero_le _, rfl, hbX, HSX.out, kX⟩
          case round =>
            obtain ⟨q, hq, rfl, hbq, hSq, kq⟩ := hrel
            clear HSX hbX kX
            by_cases hqn : q < nk
            · have hqi : (q : Int) < (nk : Int) := by omega
              have e7 := kq.cell 0 rfl
              obtain ⟨ao', n', cap', F', e', ho', _⟩ := hSq.own _ hmem
              injection e' with e1 e2 e3
              subst e1 e2 e3
              obtain ⟨g, rfl, hgl, hgB, _⟩ := ho'.cells (by omega)
              have hgL := hSq.lt _ hmem g (by simp [Value.ownBlock])
              have HF : Hid (∀ x : Int, ∃ q' : Nat, q' ≤ nk ∧ Value.int .i64 ((q : Int) + 1) = .int .i64 (q' : Nat) ∧ Below w2.heap.size w2 (wr.setCell ⟨g, q * 10, none⟩ (.int .i64 x)) ∧ Sv LB w2.heap.size L (wr.setCell ⟨g, q * 10, none⟩ (.int .i64 x)) ∧ Cl (wr.setCell ⟨g, q * 10, none⟩ (.int .i64 x)) X7 24 [.slice (some ⟨g, 0, none⟩) nk ck]) := fun x => ⟨q + 1, hqn, by simp, hbq.setCell (p := ⟨g, q * 10, none⟩) hgB _, hSq.flip hLk hqn x, kq.other (by omega) _ _⟩
              obtain ⟨_, c0, z0⟩ := own_flip ho' hqn 0
              clear hSq ho'
              go_wp2_with fail
              go_roundw
              case rel => exact HF.out _
              case measure => simp [intOf]; omega
            · obtain rfl : q = nk := by omega
              have hqi : ¬ (q : Int) < (q : Int) := by omega
              have HY : Hid _ := hSq
              clear hSq
              go_wp2_with fail
              go_roundw
              case rel => exact ⟨k + 1, hk5, by simp, hbq, HY.out⟩
              case measure => simp [intOf]; omega
        · have hki : ¬ (k : Int) < 5 := by omega
          clear hSr hSv hk5 hk
          have kA3 := (kA2.below hbr).cell 0 rfl
          go_wp2_with fail
          clear kA3
          go_loopw [55] (fun j wq => ∃ q : Nat, q ≤ n ∧ j = .int .i64 (q : Nat) ∧ Below w2.heap.size w2 wq) (fun j _ => n - (intOf j).toNat)
          case atStart => exact ⟨0, Nat.zero_le _, rfl, hbr⟩
          case round =>
            obtain ⟨q, hq, rfl, hbq⟩ := hrel
            clear hbr
            have d0 := (kA2.below hbq).cell 0 rfl
            have rq := rA2.below hbq
            by_cases hqn : q < n
            · have hqi : (q : Int) < (n : Int) := by omega
              have hSB := HSb.out wr (q : Int) rq
              have hwr := hbq.size
              by_cases hqs : q < (snd F n).size
              · obtain ⟨u, hu⟩ : ∃ u, (snd F n).subs[q]? = some u := ⟨_, List.getElem?_eq_getElem (by rw [Tre.subs_length]; exact hqs)⟩
                have pu := u.size_pos
                have HC : Hid (∀ _W : World, Calls Try.prog 23 #[.agg #[.slice a n c], .int .i64 (q : Nat)] wr (fun e w' => ∃ g cap, e = .returned (.tuple #[.agg #[.slice (some ⟨g, 0, none⟩) u.size cap], .bool true]) ∧ wr.heap.size ≤ g ∧ g < w'.heap.size ∧ w'.cell? ⟨g, 0, none⟩ = some (.int .i64 (nodes u 0).k) ∧ w'.frozen? ⟨g, 0, none⟩ = false ∧ Below wr.heap.size wr w')) := by
                  refine fun _ => hSB.mono ?_
                  rintro e w' ⟨_, h2, h3⟩
                  obtain ⟨ao, cap, he, ho⟩ := h2 u (by omega) (by simpa using hu)
                  obtain ⟨g, rfl, hgl, hgB, _⟩ := ho.cells pu
                  obtain ⟨_, c0, z0⟩ := own_flip ho pu 0
                  exact ⟨g, cap, he, hgB, hgl, by simpa using c0, by simpa using z0, h3⟩
                have hu0 : (u.size : Int) > 0 := by omega
                clear hSB hu rq
                generalize (nodes u 0).k = kk at *
                generalize u.size = us at *
                by_cases h20 : q < 20
                · have h20i : (q : Int) < 20 := by omega
                  go_wp2_with (go_at_call 23; refine (HC.out wr).mono ?_; rintro e x ⟨g, cap, rfl, hgB, hgl, c0, z0, b1⟩; have hb9 := hbq.trans (b1.mono hwr); have e10 := (Cl.new x 24 [.slice (some ⟨g, 0, none⟩) us cap]).cell 0 rfl; have c1 := c0; rw [← (below1 x (.cells #[.slice (some ⟨g, 0, none⟩) us cap] 24)).cell (p := ⟨g, 0, none⟩) hgl] at c1; have z1 := z0; rw [← (below1 x (.cells #[.slice (some ⟨g, 0, none⟩) us cap] 24)).frozen (p := ⟨g, 0, none⟩) hgl] at z1; have hb10 : ∀ v, Below w2.heap.size w2 ((x.setCell ⟨g, 0, none⟩ v).alloc (.cells #[.slice (some ⟨g, 0, none⟩) us cap] 24)) := fun v => (hb9.setCell (p := ⟨g, 0, none⟩) (Nat.le_trans hwr hgB) v).alloc (by simpa using hb9.size) _)
                  go_roundw
                  case rel => exact ⟨q + 1, hqn, by simp, hb10 _⟩
                  case measure => simp [intOf]; omega
                · have h20i : ¬ (q : Int) < 20 := by omega
                  go_wp2_with (go_at_call 23; refine (HC.out wr).mono ?_; rintro e x ⟨g, cap, rfl, hgB, hgl, c0, z0, b1⟩; have hb9 := hbq.trans (b1.mono hwr); have hb10 : Below w2.heap.size w2 (x.alloc (.cells #[.slice (some ⟨g, 0, none⟩) us cap] 24)) := hb9.alloc hb9.size _)
                  go_roundw
                  case rel => exact ⟨q + 1, hqn, by simp, hb10⟩
                  case measure => simp [intOf]; omega
              · have HC : Hid (∀ _W : World, Calls Try.prog 23 #[.agg #[.slice a n c], .int .i64 (q : Nat)] wr (fun e w' => e = .returned (.tuple #[.agg #[.slice none 0 0], .bool false]) ∧ Below wr.heap.size wr w')) := by
                  refine fun _ => hSB.mono ?_
                  rintro e w' ⟨h1, _, h3⟩
                  exact ⟨h1 (.inr (by omega)), h3⟩
                clear hSB rq
                go_wp2_with (go_at_call 23; refine (HC.out wr).mono ?_; rintro e x ⟨rfl, b1⟩; have hb9 := hbq.trans (b1.mono hwr); have hb10 : Below w2.heap.size w2 (x.alloc (.cells #[.slice none 0 0] 24)) := hb9.alloc hb9.size _)
                go_roundw
                case rel => exact ⟨q + 1, hqn, by simp, hb10⟩
                case measure => simp [intOf]; omega
            · obtain rfl : q = n := by omega
              have hqi : ¬ (q : Int) < (q : Int) := by omega
              have HS := rsame_any a aw q q c cw F F wr rq (ow.rd.below hbq) hn
              rw [eqN_same F q, show (decide (q = q) && true) = true by simp] at HS
              have HE : Hid (∀ W, Below wr.heap.size wr W → Below w.heap.size w W) := fun W h => (hB2.trans (hbq.mono hB2.size)).trans (h.mono (Nat.le_trans hB2.size hbq.size))
              clear ow rq rA2 rB2
              go_wp2_with (go_at_call 10; refine HS.mono ?_; rintro e w9 ⟨rfl, b9⟩)
              go_ret
              exact ⟨rfl, HE.out _ b9⟩
end Go.Proofs.Ytgedhjflminlbaa
