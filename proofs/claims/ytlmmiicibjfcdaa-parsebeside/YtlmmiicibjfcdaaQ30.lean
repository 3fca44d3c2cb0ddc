/- ParseBeside: the walk, given what the reference's Lex says. -/
import Derived.Test.YtlmmiicibjfcdaaQ25
import Derived.Test.YtlmmiicibjfcdaaQ28
import Derived.Test.YtlmmiicibjfcdaaQ29
namespace Go.Proofs.Ytlmmiicibjfcdaa
open Go.RowKit
theorem Hid.mk' {p : Prop} (h : p) : Hid p := h
/-- The tree of a pattern that can be read. -/
def trW (fl : Fg) (z : Nat → Nat) (n : Nat) : Tre := treT (tpW fl (wl z n 1100 0)) (wl z n 1100 0).length
theorem okp_tre {z : Nat → Nat} {n : Nat} {fl : Fg} {l : List Nd} (hz : ∀ i, i < n → z i < 256) (h : OkP z n fl l) : l = ndF (trW fl z n).subs ∧ l.length = (trW fl z n).size ∧ (trW fl z n).ok = true ∧ (trW fl z n).size ≤ 2048 := by
  have hm := toks_may fl hz h.2.1
  obtain ⟨h1, h2, h3, h4, _⟩ := toks_tree (fun i hi => fine_tp fl (hm i hi).1) (fun i hi => (hm i hi).2) h.2.2
  exact ⟨h1, h2, h3, h4⟩
theorem okp_snd {z : Nat → Nat} {n : Nat} {fl : Fg} {l : List Nd} (hz : ∀ i, i < n → z i < 256) (h : OkP z n fl l) : snd (fun i => l.getD i ndE0) l.length = trW fl z n := by
  obtain ⟨h1, h2, h3, h4⟩ := okp_tre hz h
  unfold snd
  rw [tree_list h1 h3 h4]; rfl
/-- Nodes of a tree, listed, held against the tree's. -/
theorem eqN_tree {t : Tre} {l : List Nd} (hl : l = ndF t.subs) : ∀ k, k ≤ t.size → T.eqN (fun i => l.getD i ndE0) (nodes t) k = true := by
  intro k
  induction k with
  | zero => intro _; rfl
  | succ k ih =>
    intro hk
    have hp' : k < t.subs.length := by rw [Tre.subs_length]; omega
    have e : l.getD k ndE0 = nodes t k := by
      rw [hl]
      unfold ndF
      rw [List.getD_eq_getElem?_getD, List.getElem?_mapIdx, List.getElem?_eq_getElem hp', nodes_get (List.getElem?_eq_getElem hp')]
      rfl
    rw [T.eqN, ih (by omega)]
    show (true && (l.getD k ndE0).eq (nodes t k)) = true
    rw [e, nd_same]; rfl
/-- The bytes of p|q. -/
def bz (p q : Nat → Nat) (n : Nat) (i : Nat) : Nat := if i < n then p i else if i = n then 124 else q (i - (n + 1))
theorem bz_small {p q : Nat → Nat} {n k : Nat} (hp : ∀ i, i < n → p i < 256) (hq : ∀ i, i < k → q i < 256) : ∀ i, i < n + 1 + k → bz p q n i < 256 := by
  intro i hi
  unfold bz
  split
  · rename_i h; exact hp i h
  split
  · omega
  · exact hq _ (by omega)
theorem byBar (p q : Nat → Nat) (n k : Nat) : byL p n ++ byL (fun _ => 124) 1 ++ byL q k = byL (bz p q n) (n + 1 + k) := by
  apply List.ext_getElem?
  intro i
  by_cases hi : i < n + 1 + k
  · rw [byL_get _ hi]
    unfold bz
    by_cases h1 : i < n
    · rw [if_pos h1, List.append_assoc, List.getElem?_append_left (by rw [byL_len]; exact h1), byL_get _ h1]
    · rw [if_neg h1]
      by_cases h2 : i = n
      · subst h2
        rw [if_pos rfl, List.append_assoc, List.getElem?_append_right (by rw [byL_len]; omega), byL_len, Nat.sub_self]
        rfl
      · rw [if_neg h2, List.getElem?_append_right (by simp [byL_len]; omega)]
        have e : (byL p n ++ byL (fun _ => 124) 1).length = n + 1 := by simp [byL_len]
        rw [e]
        exact byL_get _ (by omega)
  · rw [List.getElem?_eq_none (by simp [byL_len]; omega), List.getElem?_eq_none (by rw [byL_len]; omega)]
theorem own_cap {W : World} {base e size k : Nat} {ao : Option Addr} {cap : Nat} {xs : List Value} (h : W.ownsRow base e size (.slice ao k cap) k xs) : k ≤ cap := by
  rcases h.2 with ⟨hv, h0⟩ | ⟨g, cp, cur, hv, _, _, hc, _⟩
  · omega
  · cases hv; exact hc
set_option maxRecDepth 10000 in
set_option maxHeartbeats 8000000 in
theorem beside_z (ao bo : Option Addr) (n k cap cbp : Nat) (p q : Nat → Nat) (fl : Fg) (w : World) (hqk : q k = 41) (hrp : Rd w ao n p) (hrq : Rd w bo k q) (HLX : Hid (∀ W, Below w.heap.size w W → k ≤ 1024 → Calls Try.prog 38 #[.slice bo k cbp] W (RetLx W q k))) : Calls Try.prog 7 #[.slice ao n cap, .slice bo k cbp, fgV fl] w fun e w' => e = .returned (.bool true) ∧ Below w.heap.size w w' := by
  have hB := bel1 w (.cells #[.bool fl.c, .bool fl.d, .bool fl.m, .bool fl.o, .bool fl.l] 23)
  have kF := Cl.new w 23 [.bool fl.c, .bool fl.d, .bool fl.m, .bool fl.o, .bool fl.l]
  have HP := parse_any ao n cap p fl (w.alloc (.cells #[.bool fl.c, .bool fl.d, .bool fl.m, .bool fl.o, .bool fl.l] 23)) (hrp.below hB)
  have hrpV := hrp.below hB
  have hrqV := hrq.below hB
  have HG := fun W => begun_any W
  have hfg : fgV fl = .agg #[.bool fl.c, .bool fl.d, .bool fl.m, .bool fl.o, .bool fl.l] := rfl
  have hps := hrp.small
  have hqs := hrq.small
  rw [hfg] at *
  clear hfg hrp hrq
  go_enter Try.func7, Try.ntmps7
  go_wp2_with fail
  refine HP.mono ?_
  clear HP
  generalize w.alloc (.cells #[.bool fl.c, .bool fl.d, .bool fl.m, .bool fl.o, .bool fl.l] 23) = V at *
  rintro e W1 (⟨⟨pa, pe, hne, rfl, hb1⟩, _⟩ | ⟨la, no, nc, hoka, rfl, hrow, hb1⟩)
  · have hbA := bel1 W1 (.cells #[.slice none 0 0] 28)
    have hB1 := hB.trans (hb1.mono hB.size)
    have hB2 := hB1.trans (hbA.mono hB1.size)
    have hc1 : (pe != 0) = true := by simpa using hne
    have kF2 := (kF.below hb1).below hbA
    have HP2 := parse_any bo k cbp q fl (W1.alloc (.cells #[.slice none 0 0] 28)) ((hrqV.below hb1).below hbA)
    have hfg : fgV fl = .agg #[.bool fl.c, .bool fl.d, .bool fl.m, .bool fl.o, .bool fl.l] := rfl
    rw [hfg] at HP2
    obtain ⟨f0, f1, f2, f3, f4⟩ : (W1.alloc (.cells #[.slice none 0 0] 28)).cell? ⟨w.heap.size, 0, none⟩ = some (.bool fl.c) ∧ (W1.alloc (.cells #[.slice none 0 0] 28)).cell? ⟨w.heap.size, 1, none⟩ = some (.bool fl.d) ∧ (W1.alloc (.cells #[.slice none 0 0] 28)).cell? ⟨w.heap.size, 2, none⟩ = some (.bool fl.m) ∧ (W1.alloc (.cells #[.slice none 0 0] 28)).cell? ⟨w.heap.size, 3, none⟩ = some (.bool fl.o) ∧ (W1.alloc (.cells #[.slice none 0 0] 28)).cell? ⟨w.heap.size, 4, none⟩ = some (.bool fl.l) := ⟨kF2.cell 0 rfl, kF2.cell 1 rfl, kF2.cell 2 rfl, kF2.cell 3 rfl, kF2.cell 4 rfl⟩
    clear hb1 hbA hB hB1 hne hrpV hrqV hps hqs kF kF2 hfg HLX
    go_wp2_with fail
    refine HP2.mono ?_
    clear HP2 f0 f1 f2 f3 f4
    have key : ∀ (sq : Value) (at_ er : Int) (W2 : World), Below (W1.alloc (.cells #[.slice none 0 0] 28)).heap.size (W1.alloc (.cells #[.slice none 0 0] 28)) W2 → Below w.heap.size w (W2.alloc (.cells #[sq] 28)) := fun sq at_ er W2 h => (hB2.trans (h.mono hB2.size)).trans ((bel1 W2 _).mono (hB2.trans (h.mono hB2.size)).size)
    rintro e W2 (⟨⟨qa, qe, _, rfl, hb2⟩, _⟩ | ⟨lb, no2, nc2, _, rfl, _, hb2⟩)
    · have HB := key (.slice none 0 0) qa qe W2 hb2
      clear key hB2 hb2
      go_wp2_with fail
      refine (HG _).mono ?_
      rintro e W5 ⟨rfl, hb5⟩
      have HB5 := HB.trans (hb5.mono HB.size)
      clear hb5 HB
      go_wp2_with fail
      refine (HG _).mono ?_
      rintro e W6 ⟨rfl, hb6⟩
      have HB6 := HB5.trans (hb6.mono HB5.size)
      clear hb6 HB5
      go_wp2_with fail
      go_ret
      exact ⟨rfl, HB6⟩
    · have HB := key (.slice no2 lb.length nc2) 0 0 W2 hb2
      clear key hB2 hb2
      generalize lb.length = nb at *
      go_wp2_with fail
      refine (HG _).mono ?_
      rintro e W5 ⟨rfl, hb5⟩
      have HB5 := HB.trans (hb5.mono HB.size)
      clear hb5 HB
      go_wp2_with fail
      refine (HG _).mono ?_
      rintro e W6 ⟨rfl, hb6⟩
      have HB6 := HB5.trans (hb6.mono HB5.size)
      clear hb6 HB5
      go_wp2_with fail
      go_ret
      exact ⟨rfl, HB6⟩
  · have hbA := bel1 W1 (.cells #[.slice no la.length nc] 28)
    have kA := Cl.new W1 28 [.slice no la.length nc]
    have hB1 := hB.trans (hb1.mono hB.size)
    have hB2 := hB1.trans (hbA.mono hB1.size)
    have kF2 := (kF.below hb1).below hbA
    have hrp2 := (hrpV.below hb1).below hbA
    have hrq2 := (hrqV.below hb1).below hbA
    have hrdA := (rdn_row hrow).below hbA
    have hcapA : la.length ≤ nc := own_cap hrow
    have HP2 := parse_any bo k cbp q fl (W1.alloc (.cells #[.slice no la.length nc] 28)) hrq2
    have hfg : fgV fl = .agg #[.bool fl.c, .bool fl.d, .bool fl.m, .bool fl.o, .bool fl.l] := rfl
    rw [hfg] at HP2
    obtain ⟨f0, f1, f2, f3, f4⟩ : (W1.alloc (.cells #[.slice no la.length nc] 28)).cell? ⟨w.heap.size, 0, none⟩ = some (.bool fl.c) ∧ (W1.alloc (.cells #[.slice no la.length nc] 28)).cell? ⟨w.heap.size, 1, none⟩ = some (.bool fl.d) ∧ (W1.alloc (.cells #[.slice no la.length nc] 28)).cell? ⟨w.heap.size, 2, none⟩ = some (.bool fl.m) ∧ (W1.alloc (.cells #[.slice no la.length nc] 28)).cell? ⟨w.heap.size, 3, none⟩ = some (.bool fl.o) ∧ (W1.alloc (.cells #[.slice no la.length nc] 28)).cell? ⟨w.heap.size, 4, none⟩ = some (.bool fl.l) := ⟨kF2.cell 0 rfl, kF2.cell 1 rfl, kF2.cell 2 rfl, kF2.cell 3 rfl, kF2.cell 4 rfl⟩
    have hla : la.length ≤ 2048 := (okp_chk hps hoka).2
    clear hb1 hbA hB hB1 hrpV hrqV kF hfg hrow
    generalize hna : la.length = na at *
    go_wp2_with fail
    refine HP2.mono ?_
    clear HP2 f0 f1 f2 f3 f4
    generalize W1.heap.size = A at *
    generalize W1.alloc (.cells #[.slice no na nc] 28) = U at *
    rintro e W2 (⟨⟨qa, qe, hne, rfl, hb2⟩, _⟩ | ⟨lb, no2, nc2, hokb, rfl, hrow2, hb2⟩)
    · have hbB := bel1 W2 (.cells #[.slice none 0 0] 28)
      have hB3 := hB2.trans (hb2.mono hB2.size)
      have HB := hB3.trans (hbB.mono hB3.size)
      have hc1 : (qe != 0) = true := by simpa using hne
      clear hbB hB3 hB2 hb2 hne hoka hrdA hrp2 hrq2 kA kF2 HLX hps hqs
      go_wp2_with fail
      refine (HG _).mono ?_
      rintro e W5 ⟨rfl, hb5⟩
      have HB5 := HB.trans (hb5.mono HB.size)
      clear hb5 HB

      go_wp2_with fail
      refine (HG _).mono ?_
      rintro e W6 ⟨rfl, hb6⟩
      have HB6 := HB5.trans (hb6.mono HB5.size)
      clear hb6 HB5
      go_wp2_with fail
      go_ret
      exact ⟨rfl, HB6⟩
    · have hbB := bel1 W2 (.cells #[.slice no2 lb.length nc2] 28)
      have kB := Cl.new W2 28 [.slice no2 lb.length nc2]
      have hB3 := hB2.trans (hb2.mono hB2.size)
      have HB := hB3.trans (hbB.mono hB3.size)
      have kA3 := (kA.below hb2).below hbB
      have kF3 := (kF2.below hb2).below hbB
      have hrp3 := (hrp2.below hb2).below hbB
      have hrq3 := (hrq2.below hb2).below hbB
      have hrdA3 := (hrdA.below hb2).below hbB
      have hrdB3 := (rdn_row hrow2).below hbB
      have hcapB : lb.length ≤ nc2 := own_cap hrow2
      have hlb : lb.length ≤ 2048 := (okp_chk hqs hokb).2
      clear hbB hB3 hB2 hb2 hrow2 kA kF2 hrp2 hrq2 hrdA
      generalize hnb : lb.length = nb at *
      go_wp2_with fail
      refine (HG _).mono ?_
      rintro e W5 ⟨rfl, hb5⟩
      generalize W2.heap.size = BB at *
      generalize W2.alloc (.cells #[.slice no2 nb nc2] 28) = U2 at *
      have HB5 := HB.trans (hb5.mono HB.size)
      have kA5 := kA3.below hb5
      have kB5 := kB.below hb5
      have kF5 := kF3.below hb5
      have hrp5 := hrp3.below hb5
      have hrq5 := hrq3.below hb5
      have hrdA5 := hrdA3.below hb5
      have hrdB5 := hrdB3.below hb5
      have HBR := bar_any bo k cbp q fl lb W5 hrq5 hokb (HLX.out W5 HB5 hokb.1)
      clear hb5 HB kA3 kB kF3 hrp3 hrq3 hrdA3 hrdB3 HLX
      go_wp2_with fail
      refine HBR.mono ?_
      clear HBR
      rintro e W6 ⟨B, rfl, hBn, hb6⟩
      have HB6 := HB5.trans (hb6.mono HB5.size)
      have kA6 := kA5.below hb6
      have kB6 := kB5.below hb6
      have kF6 := kF5.below hb6
      have hrp6 := hrp5.below hb6
      have hrq6 := hrq5.below hb6
      have hrdA6 := hrdA5.below hb6
      have hrdB6 := hrdB5.below hb6
      clear hb6 HB5 kA5 kB5 kF5 hrp5 hrq5 hrdA5 hrdB5
      have HE : Hid (Calls Try.prog 11 #[] W6 fun e w' => e = .returned (.bool true) ∧ Below W6.heap.size W6 w') := HG W6
      have hn1 := hoka.1
      have hk1 := hokb.1
      have a1 := kA6.cell 0 rfl
      have b1 := kB6.cell 0 rfl
      have hs1 : IntKind.i64.wrap ((n : Int) + (k : Int)) = ((n + k : Nat) : Int) := by rw [IntKind.wrap_i64]; omega
      have hs2 : IntKind.i64.wrap ((na : Int) + (nb : Int)) = ((na + nb : Nat) : Int) := by rw [IntKind.wrap_i64]; omega
      cases B with
      | true =>
        clear hBn hoka hokb hrdA6 hrdB6 hrp6 hrq6 kA6 kB6 kF6 HG a1 b1 hs1 hs2
        go_wp2_with fail
        refine HE.out.mono ?_
        rintro e W7 ⟨rfl, hb7⟩
        have HB7 := HB6.trans (hb7.mono HB6.size)
        clear hb7 HB6
        go_wp2_with fail
        go_ret
        exact ⟨rfl, HB7⟩
      | false =>
      have hno := hBn rfl
      by_cases hnk : n + k ≤ 1015
      · by_cases hab : na + nb < 2048
        · have g1 : ¬ (((n + k : Nat) : Int) > 1015) := by omega
          have g2 : ¬ (((na + nb : Nat) : Int) ≥ 2048) := by omega
          have hsmB := bz_small (p := p) (q := q) (n := n) (k := k) hps hqs
          have hbyB := byBar p q n k
          have hE0 : (W6.alloc (.cells #[] 5)).ownsRow W6.heap.size 5 1 (.slice (some ⟨W6.heap.size, 0, none⟩) 0 0) 0 [] := World.ownsRow_made W6 #[] 0 (Nat.le_refl _) (by decide) rfl
          go_upto_region 5 with fail
          go_cut [13] (fun v wx => ∃ g c, v = .slice (some ⟨g, 0, none⟩) (n + 1 + k) c ∧ Hid (Rd wx (some ⟨g, 0, none⟩) (n + 1 + k) (bz p q n)) ∧ Hid (Below W6.heap.size W6 wx))
          case first =>
            clear hrdA6 hrdB6 hoka hokb hno hBn kA6 kB6 kF6 HG HE HB6
            have hbe := bel1 W6 (.cells #[] 5)
            have hrpE := hrp6.below hbe
            have HZ : Hid (∀ v' w', w'.ownsRow W6.heap.size 5 1 v' (0 + n + 1 + k) ([] ++ byL p n ++ byL (fun _ => 124) 1 ++ byL q k) → Below W6.heap.size W6 w' → ∃ g c, v' = .slice (some ⟨g, 0, none⟩) (n + 1 + k) c ∧ Hid (Rd w' (some ⟨g, 0, none⟩) (n + 1 + k) (bz p q n)) ∧ Hid (Below W6.heap.size W6 w')) := by
              intro v' w' ho hb
              rw [List.nil_append, hbyB, Nat.zero_add] at ho
              obtain ⟨g, c, rfl⟩ := own_some ho (by omega)
              exact ⟨g, c, rfl, rd_own hsmB ho, hb⟩
            have mk1 : Hid True := trivial
            have mk2 : Hid True := trivial
            go_wp2_with (first
              | (at_builtin; clear mk1; refine wpList_append_rd rfl _ _ rfl W6.heap.size _ 0 [] rfl hE0 ao n cap p rfl hrpE (by omega) hbe.size ?_; intro v1 w1 ho1 hb1; have hbw1 := hb1 W6 hbe; have hbl1 := bel1 w1 (.cells #[.int .u8 124] 5); have hoB1 := own_at ho1 (W' := w1.alloc (.cells #[.int .u8 124] 5)) (fun _ hg => hbl1.block _ (own_block ho1 hg).2.1); have hrl := rd_lit w1 124 (by decide); have hbw1b := hbw1.trans (hbl1.mono hbw1.size); clear ho1 hb1)
              | (at_builtin; clear mk2; refine wpList_append_rd rfl _ _ rfl W6.heap.size _ (0 + n) ([] ++ byL p n) rfl hoB1 (some ⟨w1.heap.size, 0, none⟩) 1 1 (fun _ => 124) rfl hrl (by omega) hbw1b.size ?_; intro v2 w2 ho2 hb2; have hbw2 := hb2 W6 hbw1b; have hrq2 := hrq6.below hbw2; clear hb2)
              | (at_builtin; refine wpList_append_rd rfl _ _ rfl W6.heap.size _ (0 + n + 1) ([] ++ byL p n ++ byL (fun _ => 124) 1) rfl ho2 bo k cbp q rfl hrq2 (by omega) hbw2.size ?_; intro v3 w3 ho3 hb3; have HY := HZ.out v3 w3 ho3 (hb3 W6 hbw2); clear hb3 ho3))
            go_meet
            exact HY
          case rest =>
            obtain ⟨g, c, rfl, hrB, hbQ⟩ := hcut
            have HPB := parse_any (some ⟨g, 0, none⟩) (n + 1 + k) c (bz p q n) fl wc hrB.out
            obtain ⟨ea1, ea2, ea3, ea4⟩ := okp_tre hps hoka
            obtain ⟨eb1, eb2, eb3, eb4⟩ := okp_tre hqs hokb
            have sA := okp_snd hps hoka
            have sB := okp_snd hqs hokb
            rw [hna] at ea2 sA
            rw [hnb] at eb2 sB
            have okB : OkP (bz p q n) (n + 1 + k) fl (ndF (Tre.two 4 (trW fl p n) (trW fl q k)).subs) := bar_ok (p := p) (q := q) (fun i hi => by unfold bz; rw [if_pos hi]) (by unfold bz; rw [if_neg (by omega), if_pos rfl]) (fun i hi => by unfold bz; rw [if_neg (by omega), if_neg (by omega)]; congr 1; omega) (by unfold bz; rw [if_neg (by omega), if_neg (by omega), show n + 1 + k - (n + 1) = k by omega, hqk]; decide) (by omega) hoka hokb hno (by show (trW fl p n).size + (trW fl q k).size + 1 ≤ 2048; omega)
            have HB7 := HB6.trans (hbQ.out.mono HB6.size)
            have kA7 := kA6.below hbQ.out
            have kB7 := kB6.below hbQ.out
            have kF7 := kF6.below hbQ.out
            have hrp7 := hrp6.below hbQ.out
            have hrq7 := hrq6.below hbQ.out
            have hrdA7 := hrdA6.below hbQ.out
            have hrdB7 := hrdB6.below hbQ.out
            have hfg : fgV fl = .agg #[.bool fl.c, .bool fl.d, .bool fl.m, .bool fl.o, .bool fl.l] := rfl
            rw [hfg] at HPB
            obtain ⟨f0, f1, f2, f3, f4⟩ : wc.cell? ⟨w.heap.size, 0, none⟩ = some (.bool fl.c) ∧ wc.cell? ⟨w.heap.size, 1, none⟩ = some (.bool fl.d) ∧ wc.cell? ⟨w.heap.size, 2, none⟩ = some (.bool fl.m) ∧ wc.cell? ⟨w.heap.size, 3, none⟩ = some (.bool fl.o) ∧ wc.cell? ⟨w.heap.size, 4, none⟩ = some (.bool fl.l) := ⟨kF7.cell 0 rfl, kF7.cell 1 rfl, kF7.cell 2 rfl, kF7.cell 3 rfl, kF7.cell 4 rfl⟩
            clear hrB hbQ kA6 kB6 kF6 hrp6 hrq6 hrdA6 hrdB6 HB6 hfg hBn hE0 hbyB hsmB HE HG a1 b1 hs1 hs2
            go_wp2_with fail
            refine HPB.mono ?_
            clear HPB
            rintro e W8 (⟨_, hno8⟩ | ⟨l3, no3, nc3, hok3, rfl, hrow3, hb8⟩)
            · exact absurd okB (hno8 _)
            have e3 : l3 = ndF (Tre.two 4 (trW fl p n) (trW fl q k)).subs := Except.ok.inj (hok3.2.2.symm.trans okB.2.2)
            have e3l : l3.length = (trW fl p n).size + (trW fl q k).size + 1 := by rw [e3, ndF_len, Tre.subs_length]; rfl
            have hbT := bel1 W8 (.cells #[.slice no3 l3.length nc3] 28)
            have kT := Cl.new W8 28 [.slice no3 l3.length nc3]
            have hB8 := HB7.trans (hb8.mono HB7.size)
            have HB9 := hB8.trans (hbT.mono hB8.size)
            have kA9 := (kA7.below hb8).below hbT
            have kB9 := (kB7.below hb8).below hbT
            have kF9 := (kF7.below hb8).below hbT
            have hrp9 := (hrp7.below hb8).below hbT
            have hrq9 := (hrq7.below hb8).below hbT
            have hrdA9 := (hrdA7.below hb8).below hbT
            have hrdB9 := (hrdB7.below hb8).below hbT
            have hrdT9 := (rdn_row hrow3).below hbT
            have hEQ := eqN_tree e3 ((trW fl p n).size + (trW fl q k).size + 1) (Nat.le_refl _)
            clear hb8 hbT hB8 HB7 kA7 kB7 kF7 hrp7 hrq7 hrdA7 hrdB7 hrow3 f0 f1 f2 f3 f4 okB hok3 e3
            generalize hn3 : l3.length = n3 at *
            have E3 : Hid (n3 = (trW fl p n).size + (trW fl q k).size + 1) := e3l
            have E1 : Hid (na = (trW fl p n).size) := ea2
            have E2 : Hid (nb = (trW fl q k).size) := eb2
            clear e3l ea2 eb2
            go_upto_region 7 with fail
            generalize W8.heap.size = TT at *
            generalize W8.alloc (.cells #[.slice no3 n3 nc3] 28) = U7 at *
            go_cut [90] (fun v wx => v = .bool false ∧ Hid (Below U7.heap.size U7 wx))
            case first =>
              have HX : Hid (∀ W', Below U7.heap.size U7 W' → (W'.cell? ⟨TT, 0, none⟩ = some (.slice no3 n3 nc3) ∧ W'.cell? ⟨A, 0, none⟩ = some (.slice no na nc) ∧ W'.cell? ⟨BB, 0, none⟩ = some (.slice no2 nb nc2)) ∧ T.RdN W' no na (fun i => la.getD i ndE0) ∧ T.RdN W' no2 nb (fun i => lb.getD i ndE0) ∧ T.RdN W' no3 n3 (fun i => l3.getD i ndE0)) := fun W' hb => ⟨⟨(kT.below hb).cell 0 rfl, (kA9.below hb).cell 0 rfl, (kB9.below hb).cell 0 rfl⟩, hrdA9.below hb, hrdB9.below hb, hrdT9.below hb⟩
              have HJ : Hid (∀ W', T.RdN W' no na (fun i => la.getD i ndE0) → T.RdN W' no2 nb (fun i => lb.getD i ndE0) → Calls Try.prog 20 #[.int .i64 4, .agg #[.slice no na nc], .agg #[.slice no2 nb nc2]] W' (T.RetT W' n3 (nodes (.two 4 (trW fl p n) (trW fl q k))))) := fun W' ha hb => by
                have := T.rjoin_yes 4 no no2 na nb nc nc2 _ _ W' (.inr rfl) ha hb (by omega) (by omega) hcapA hcapB
                rw [sA, sB, ← E3.out] at this
                exact this
              have HS : Hid (∀ W' g3 c3, T.RdN W' no3 n3 (fun i => l3.getD i ndE0) → T.RdN W' g3 n3 (nodes (.two 4 (trW fl p n) (trW fl q k))) → Calls Try.prog 12 #[.agg #[.slice no3 n3 nc3], .agg #[.slice g3 n3 c3]] W' (T.RetSm W' true)) := fun W' g3 c3 h1 h2 => by
                have := T.rsame_any no3 g3 n3 n3 nc3 c3 _ _ W' h1 h2 (by have := E3.out; omega)
                rw [← E3.out] at hEQ
                rw [hEQ, decide_eq_true rfl] at this
                exact this
              generalize nodes (.two 4 (trW fl p n) (trW fl q k)) = JF at HJ HS
              clear hEQ E3 E1 E2 sA sB ea1 ea3 ea4 eb1 eb3 eb4 hoka hokb hcapA hcapB hla hlb kT kA9 kB9 kF9 hrdA9 hrdB9 hrdT9 hrp9 hrq9 HB9 g1 g2 hno hnk hab hna hnb hn3
              have TB : Hid (Below U7.heap.size U7 U7.drew) := (Below.refl _ _).drew
              obtain ⟨⟨d1, d2, d3⟩, ra, rb, rt⟩ := HX.out _ TB.out
              go_region_law (go_simp; first | (go_at_call 20; refine (HJ.out _ ra rb).mono ?_; rintro e w3 ⟨g3, c3, rfl, ho3, hb3⟩; have tB := TB.out.trans (hb3.mono TB.out.size); clear d1 d2 d3 ra rb rt TB; have TB : Hid _ := tB; obtain ⟨⟨d1, d2, d3⟩, ra, rb, rt⟩ := HX.out _ tB; have rj := T.OwN.rd ho3; clear ho3 hb3 tB) | (go_at_call 12; refine (HS.out _ _ _ rt rj).mono ?_; rintro e w4 ⟨rfl, hb4⟩; have tB := TB.out.trans (hb4.mono TB.out.size); clear d1 d2 d3 ra rb rt rj TB; have TB : Hid _ := tB; clear tB hb4))
              all_goals
                go_wp2_with fail
                go_meet
                exact ⟨rfl, TB⟩
            case rest =>
              obtain ⟨rfl, hbR⟩ := hcut
              have hpz := pair_pz (fl := fl) (by omega) hoka hokb (by show (trW fl p n).size + (trW fl q k).size + 1 ≤ 2048; have := E1.out; have := E2.out; omega)
              obtain ⟨hwe, hto⟩ := hpz
              have HPG : Hid (∀ W ga gc, Rd W ga (8 + n + k) (pz p q n k) → Calls Try.prog 17 #[.slice ga (8 + n + k) gc, .agg #[.bool fl.c, .bool fl.d, .bool fl.m, .bool fl.o, .bool fl.l]] W (RetPr W (8 + n + k) (toksS (fun i => (nS (wl (pz p q n k) (8 + n + k) 1100 0) i).r.tp fl) (wl (pz p q n k) (8 + n + k) 1100 0).length))) := fun W ga gc hr =>
                parse_good ga (8 + n + k) gc (pz p q n k) fl W hr (by omega) (fun s hs => ⟨hwe s hs, (wl_chk hr.small 1100 0 s hs (hwe s hs)).2⟩) (by have := wl_len (z := pz p q n k) (n := 8 + n + k) 1100 0; omega)
              have HS3 : Hid (∀ l3, l3 = ndF (Tre.two 3 (trW fl p n) (trW fl q k)).subs → l3.length = n3 ∧ T.eqN (fun i => l3.getD i ndE0) (nodes (Tre.two 3 (trW fl p n) (trW fl q k))) n3 = true) := fun l3 h3 => by
                have hl : l3.length = n3 := by rw [E3.out, h3, ndF_len, Tre.subs_length]; rfl
                refine ⟨hl, ?_⟩
                rw [E3.out]
                exact eqN_tree h3 _ (Nat.le_refl _)
              replace hto : toksS (fun i => (nS (wl (pz p q n k) (8 + n + k) 1100 0) i).r.tp fl) (wl (pz p q n k) (8 + n + k) 1100 0).length = .ok (ndF (Tre.two 3 (trW fl p n) (trW fl q k)).subs) ∨ ∃ at_, toksS (fun i => (nS (wl (pz p q n k) (8 + n + k) 1100 0) i).r.tp fl) (wl (pz p q n k) (8 + n + k) 1100 0).length = .error (at_, 51) := hto
              have HTO := Hid.mk' hto
              have HJ : Hid (∀ W', T.RdN W' no na (fun i => la.getD i ndE0) → T.RdN W' no2 nb (fun i => lb.getD i ndE0) → Calls Try.prog 20 #[.int .i64 3, .agg #[.slice no na nc], .agg #[.slice no2 nb nc2]] W' (T.RetT W' n3 (nodes (.two 3 (trW fl p n) (trW fl q k))))) := fun W' ha hb => by
                have := T.rjoin_yes 3 no no2 na nb nc nc2 _ _ W' (.inl rfl) ha hb (by omega) (by omega) hcapA hcapB
                rw [sA, sB, ← E3.out] at this
                exact this
              have hn38 : n3 ≤ 2048 := by have := E3.out; have := E1.out; have := E2.out; omega
              have HX0 : Hid (∀ W', Below wc.heap.size wc W' → (W'.cell? ⟨A, 0, none⟩ = some (.slice no na nc) ∧ W'.cell? ⟨BB, 0, none⟩ = some (.slice no2 nb nc2)) ∧ T.RdN W' no na (fun i => la.getD i ndE0) ∧ T.RdN W' no2 nb (fun i => lb.getD i ndE0) ∧ W'.cell? ⟨w.heap.size, 0, none⟩ = some (.bool fl.c) ∧ W'.cell? ⟨w.heap.size, 1, none⟩ = some (.bool fl.d) ∧ W'.cell? ⟨w.heap.size, 2, none⟩ = some (.bool fl.m) ∧ W'.cell? ⟨w.heap.size, 3, none⟩ = some (.bool fl.o) ∧ W'.cell? ⟨w.heap.size, 4, none⟩ = some (.bool fl.l)) := fun W' hb0 => by
                have hb := hbR.out.trans (hb0.mono hbR.out.size)
                have kF := kF9.below hb
                exact ⟨⟨(kA9.below hb).cell 0 rfl, (kB9.below hb).cell 0 rfl⟩, hrdA9.below hb, hrdB9.below hb, kF.cell 0 rfl, kF.cell 1 rfl, kF.cell 2 rfl, kF.cell 3 rfl, kF.cell 4 rfl⟩
              have hrpR := hrp9.below hbR.out
              have hrqR := hrq9.below hbR.out
              have HBR := Hid.mk' (HB9.trans (hbR.out.mono HB9.size))
              have hsmP := pz_small (p := p) (q := q) (n := n) (k := k) hps hqs
              have hbyP := byPair p q n k
              clear hto hwe hoka hokb hno hEQ E3 E1 E2 sA sB ea1 ea3 ea4 eb1 eb3 eb4 hcapA hcapB hla hlb kT kA9 kB9 kF9 hrdA9 hrdB9 hrdT9 hrp9 hrq9 HB9 g1 g2 hab hbR hna hnb hn3 hps hqs
              go_upto_region 9 with fail
              go_cut [17] (fun v wx => ∃ g c, v = .slice (some ⟨g, 0, none⟩) (8 + n + k) c ∧ Hid (Rd wx (some ⟨g, 0, none⟩) (8 + n + k) (pz p q n k)) ∧ Hid (Below wc.heap.size wc wx))
              case first =>
                clear HPG HS3 HTO HJ HX0 HBR
                have hbe := bel1F wc
                have hcv := cvA wc
                have hrpE := hrpR.below hbe
                have hE0 : RowQ wc.heap.size (wc.alloc (.cells #[.int .u8 40, .int .u8 63, .int .u8 58] 5 (3, 4))) (.slice (some ⟨wc.heap.size, 0, none⟩) 3 3) 3 [.int .u8 40, .int .u8 63, .int .u8 58] := .inr ⟨_, rfl, rfl, new_cellsF wc⟩
                have HZ : Hid (∀ v' w', w'.ownsRow wc.heap.size 5 1 v' (3 + n + ({ data := #[41, 40, 63, 58] } : ByteArray).size + k + 1) ([Value.int .u8 40, .int .u8 63, .int .u8 58] ++ byL p n ++ Lib.strCells { data := #[41, 40, 63, 58] } ++ byL q k ++ byL (fun _ => 41) 1) → Below wc.heap.size wc w' → ∃ g c, v' = .slice (some ⟨g, 0, none⟩) (8 + n + k) c ∧ Hid (Rd w' (some ⟨g, 0, none⟩) (8 + n + k) (pz p q n k)) ∧ Hid (Below wc.heap.size wc w')) := by
                  intro v' w' ho hb
                  rw [strP, show byL (fun _ => 41) 1 = [Value.int .u8 41] from rfl, hbyP, show ({ data := #[41, 40, 63, 58] } : ByteArray).size = 4 from rfl, show 3 + n + 4 + k + 1 = 8 + n + k by omega] at ho
                  obtain ⟨g, c, rfl⟩ := own_some ho (by omega)
                  exact ⟨g, c, rfl, rd_own hsmP ho, hb⟩
                have mk1 : Hid True := trivial
                have mk2 : Hid True := trivial
                have hz4 : ({ data := #[41, 40, 63, 58] } : ByteArray).size = 4 := rfl
                go_wp2_with (first
                  | (at_builtin; refine wpList_append_qs rfl _ _ rfl wc.heap.size v1 (3 + n) _ rfl ho1 { data := #[41, 40, 63, 58] } rfl (by decide) (by rw [hz4]; omega) hbw1.size ?_; intro v2 w2 ho2 hb2; have hbw2 := hb2 wc hbw1; have hrq2 := hrqR.below hbw2; clear hb2)
                  | (at_builtin; clear mk1; refine wpList_append_q rfl _ _ rfl wc.heap.size _ 3 _ rfl hE0 ao n cap p rfl hrpE (by omega) hbe.size ?_; intro v1 w1 ho1 hb1; have hbw1 := hb1 wc hbe; clear hb1)
                  | (at_builtin; clear mk2; refine wpList_append_rd rfl _ _ rfl wc.heap.size _ (3 + n + ({ data := #[41, 40, 63, 58] } : ByteArray).size) _ rfl ho2 bo k cbp q rfl hrq2 (by rw [hz4]; omega) hbw2.size ?_; intro v3 w3 ho3 hb3; have hbw3 := hb3 wc hbw2; have hbl3 := bel1 w3 (.cells #[.int .u8 41] 5); have hoB3 := own_at ho3 (W' := w3.alloc (.cells #[.int .u8 41] 5)) (fun _ hg => hbl3.block _ (own_block ho3 hg).2.1); have hrl := rd_lit w3 41 (by decide); have hbw3b := hbw3.trans (hbl3.mono hbw3.size); clear ho3 hb3)
                  | (at_builtin; refine wpList_append_rd rfl _ _ rfl wc.heap.size _ (3 + n + ({ data := #[41, 40, 63, 58] } : ByteArray).size + k) _ rfl hoB3 (some ⟨w3.heap.size, 0, none⟩) 1 1 (fun _ => 41) rfl hrl (by rw [hz4]; omega) hbw3b.size ?_; intro v4 w4 ho4 hb4; have HY := HZ.out v4 w4 ho4 (hb4 wc hbw3b); clear hb4 ho4))
                go_meet
                exact HY
              case rest =>
                obtain ⟨g9, c9, rfl, hrP, hbP⟩ := hcut
                have HX1 : Hid _ := fun W' (hb : Below _ _ W') => HX0.out W' (hbP.out.trans (hb.mono hbP.out.size))
                have HB1 := HBR.out.trans (hbP.out.mono HBR.out.size)
                obtain ⟨-, -, -, f0, f1, f2, f3, f4⟩ := HX1.out _ (Below.refl _ _)
                have HPG1 := HPG.out _ _ c9 hrP.out
                clear HPG HX0 HBR hrP hbP hrpR hrqR hsmP hbyP
                rcases HTO.out with hok3 | ⟨at3, her3⟩
                · rw [hok3] at HPG1
                  clear HTO hok3
                  go_wp2_with fail
                  refine HPG1.mono ?_
                  clear HPG1 f0 f1 f2 f3 f4
                  intro e W8 h8
                  obtain ⟨no3, nc3, rfl, hrow3, hb8⟩ := h8.2 _ rfl
                  obtain ⟨l4, hl4⟩ : ∃ l4, ndF (Tre.two 3 (trW fl p n) (trW fl q k)).subs = l4 := ⟨_, rfl⟩
                  obtain ⟨hlen4, hEQ4⟩ := HS3.out l4 hl4.symm
                  rw [hl4] at hrow3
                  have hbT := bel1 W8 (.cells #[.slice no3 l4.length nc3] 28)
                  have kT := Cl.new W8 28 [.slice no3 l4.length nc3]
                  have hrdT := (rdn_row hrow3).below hbT
                  rw [hlen4] at kT hrdT hbT
                  have HX2 : Hid _ := fun W' (hb : Below _ _ W') => HX1.out W' ((hb8.trans (hbT.mono hb8.size)).trans (hb.mono (hb8.trans (hbT.mono hb8.size)).size))
                  have HB2 := HB1.trans ((hb8.trans (hbT.mono hb8.size)).mono HB1.size)
                  have HS : Hid (∀ W' g3 c3, T.RdN W' no3 n3 (fun i => l4.getD i ndE0) → T.RdN W' g3 n3 (nodes (.two 3 (trW fl p n) (trW fl q k))) → Calls Try.prog 12 #[.agg #[.slice no3 n3 nc3], .agg #[.slice g3 n3 c3]] W' (T.RetSm W' true)) := fun W' g3 c3 h1 h2 => by
                    have := T.rsame_any no3 g3 n3 n3 nc3 c3 _ _ W' h1 h2 (by omega)
                    rw [hEQ4, decide_eq_true rfl] at this
                    exact this
                  simp only [hl4, hlen4]
                  generalize nodes (.two 3 (trW fl p n) (trW fl q k)) = JF at HJ HS
                  clear hl4 hEQ4 hlen4 HS3 HX1 HB1 h8 hrow3 hb8 hbT hn38
                  go_upto_region 13 with fail
                  generalize W8.heap.size = T3 at *
                  generalize W8.alloc (.cells #[.slice no3 n3 nc3] 28) = U3 at *
                  have HX : Hid (∀ W', Below U3.heap.size U3 W' → (W'.cell? ⟨T3, 0, none⟩ = some (.slice no3 n3 nc3) ∧ W'.cell? ⟨A, 0, none⟩ = some (.slice no na nc) ∧ W'.cell? ⟨BB, 0, none⟩ = some (.slice no2 nb nc2)) ∧ T.RdN W' no na (fun i => la.getD i ndE0) ∧ T.RdN W' no2 nb (fun i => lb.getD i ndE0) ∧ T.RdN W' no3 n3 (fun i => l4.getD i ndE0)) := fun W' hb => by
                    obtain ⟨⟨q1, q2⟩, q3, q4, -⟩ := HX2.out W' hb
                    exact ⟨⟨(kT.below hb).cell 0 rfl, q1, q2⟩, q3, q4, hrdT.below hb⟩
                  clear HX2 kT hrdT
                  have TB : Hid (Below U3.heap.size U3 U3.drew) := (Below.refl _ _).drew
                  obtain ⟨⟨d1, d2, d3⟩, ra, rb, rt⟩ := HX.out _ TB.out
                  go_region_law (go_simp; first | (go_at_call 20; refine (HJ.out _ ra rb).mono ?_; rintro e w3 ⟨g3, c3, rfl, ho3, hb3⟩; have tB := TB.out.trans (hb3.mono TB.out.size); clear d1 d2 d3 ra rb rt TB; have TB : Hid _ := tB; obtain ⟨⟨d1, d2, d3⟩, ra, rb, rt⟩ := HX.out _ tB; have rj := T.OwN.rd ho3; clear ho3 hb3 tB) | (go_at_call 12; refine (HS.out _ _ _ rt rj).mono ?_; rintro e w4 ⟨rfl, hb4⟩; have tB := TB.out.trans (hb4.mono TB.out.size); clear d1 d2 d3 ra rb rt rj TB; have TB : Hid _ := tB; clear tB hb4))
                  all_goals
                    go_wp2_with fail
                    go_ret
                    exact ⟨rfl, HB2.trans (TB.out.mono HB2.size)⟩
                · rw [her3] at HPG1
                  clear HTO her3 HS3 HJ HX1
                  go_wp2_with (go_at_call 17; refine HPG1.mono ?_; intro e W8 h8; obtain ⟨rfl, hb8⟩ := h8.1 _ rfl; clear h8; have HB3 := (HB1.trans (hb8.mono HB1.size)).trans ((bel1 W8 (.cells #[.slice none 0 0] 28)).mono (HB1.trans (hb8.mono HB1.size)).size))
                  go_ret
                  exact ⟨rfl, HB3⟩
        · have g1 : ¬ (((n + k : Nat) : Int) > 1015) := by omega
          have g2 : (((na + nb : Nat) : Int) ≥ 2048) := by omega
          clear hBn hno hoka hokb hrdA6 hrdB6 hrp6 hrq6 kA6 kB6 kF6 HG
          go_wp2_with fail
          refine HE.out.mono ?_
          rintro e W7 ⟨rfl, hb7⟩
          have HB7 := HB6.trans (hb7.mono HB6.size)
          clear hb7 HB6
          go_wp2_with fail
          go_ret
          exact ⟨rfl, HB7⟩
      · have g1 : (((n + k : Nat) : Int) > 1015) := by omega
        clear hBn hno hoka hokb hrdA6 hrdB6 hrp6 hrq6 kA6 kB6 kF6 HG a1 b1 hs2
        go_wp2_with fail
        refine HE.out.mono ?_
        rintro e W7 ⟨rfl, hb7⟩
        have HB7 := HB6.trans (hb7.mono HB6.size)
        clear hb7 HB6
        go_wp2_with fail
        go_ret
        exact ⟨rfl, HB7⟩
end Go.Proofs.Ytlmmiicibjfcdaa
