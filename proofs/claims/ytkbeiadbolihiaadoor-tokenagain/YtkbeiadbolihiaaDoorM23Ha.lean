/- The reference's Runs: the walk. The reference's Meet and Fold: the walks. The reference's Fold: the walk. ClassHas: the walk of the law. -/
import Derived.Test.YtkbeiadbolihiaaDoorM22Rv
import Derived.BigQuiet
import Derived.Deep.RegionHeld3
import Derived.Deep.AppendLies
import Derived.Test.YtkbeiadbolihiaaDoorM21To
namespace Go.Proofs.YtkbeiadbolihiaaDoor
open Go.RowKit
theorem come_ge (P : Nat → Bool) (n : Nat) : ∀ k, k < (come P n).length → k ≤ (come P n).getD k 0 ∧ (come P n).getD k 0 < n := by
  induction n with
  | zero => intro k h; cases h
  | succ n ih =>
    intro k h
    cases hP : P n with
    | false => rw [come_no hP] at h ⊢; have := ih k h; omega
    | true =>
      rw [come_yes hP] at h ⊢
      have hl := come_len P n
      by_cases hk : k < (come P n).length
      · have := ih k hk
        rw [List.getD_eq_getElem?_getD, List.getElem?_append_left hk, ← List.getD_eq_getElem?_getD]
        omega
      · simp at h
        have e : k = (come P n).length := by omega
        rw [e, List.getD_eq_getElem?_getD, List.getElem?_append_right (Nat.le_refl _), Nat.sub_self]
        show (come P n).length ≤ n ∧ n < n + 1
        omega
theorem byt_at (l : List Nat) (k : Nat) (h : k < l.length) : (byt l)[k]? = some (.int .u8 (l.getD k 0 : Nat)) := by
  unfold byt
  rw [List.getElem?_map, List.getD_eq_getElem?_getD, List.getElem?_eq_getElem h]
  rfl
/-- Runs on its way: the bytes, and the runs of the first k of them. -/
structure RelQ (w : World) (B : Nat) (L : List Nat) (ab : Option Addr) (cb : Nat) (k : Nat) (v : Value) (R : List (Nat × Nat)) (wr : World) : Prop where
  bown : wr.ownsRow w.heap.size 5 1 (.slice ab L.length cb) L.length (byt L)
  own : wr.ownsRow B 65 2 v R.length (runV R)
  bel : Below w.heap.size w wr
  is : R = (L.take k).foldl more []
  le : R.length ≤ k
  hB : B ≤ wr.heap.size
theorem more_len (R : List (Nat × Nat)) (x : Nat) : (more R x).length ≤ R.length + 1 := by
  unfold more
  split
  · split
    · simp
    · simp
  · simp
theorem take_more {L : List Nat} {k : Nat} (h : k < L.length) : (L.take (k + 1)).foldl more [] = more ((L.take k).foldl more []) (L.getD k 0) := by
  rw [List.take_add_one, List.foldl_append, List.getD_eq_getElem?_getD, List.getElem?_eq_getElem h]
  rfl
theorem RelQ.app {w W w2 : World} {B : Nat} {L : List Nat} {ab : Option Addr} {cb k x : Nat} {v v2 : Value} {R : List (Nat × Nat)} {o : Obj} (h : RelQ w B L ab cb k v R W) (hwB : w.heap.size ≤ B) (hne : (Value.slice ab L.length cb).ownBlock ≠ v.ownBlock) (hg : (W.alloc o).drew.grownBy w2 v.ownBlock)
    (hown2 : w2.ownsRow B 65 2 v2 (R.length + 1) (runV R ++ [.int .u8 (x : Nat), .int .u8 (x : Nat)])) (hm : more R x = R ++ [(x, x)]) (hn : (L.take (k + 1)).foldl more [] = more R x) : RelQ w B L ab cb (k + 1) v2 (R ++ [(x, x)]) w2 := by
  have hb : (W.alloc o).drew.ownsRow w.heap.size 5 1 (.slice ab L.length cb) L.length (byt L) := h.bown.alloc o
  have hs := h.bel.size
  have hsz : W.heap.size + 1 ≤ w2.heap.size := by have := hg.size; simpa using this
  refine ⟨hb.kept hg (.inr hne), by simpa [runV] using hown2, ((h.bel.alloc hs o).drew).grown hg (by simp; omega) (fun j e => Nat.le_trans hwB (h.own.lt j e).1), by rw [hn, hm], by simp; exact h.le, by have := h.hB; omega⟩
theorem runV_len (l : List (Nat × Nat)) : (runV l).length = l.length * 2 := by
  induction l with
  | nil => rfl
  | cons x l ih =>
    show (Value.int .u8 (x.1 : Nat) :: Value.int .u8 (x.2 : Nat) :: runV l).length = _
    rw [List.length_cons, List.length_cons, ih, List.length_cons]
    omega
theorem runV_set (R : List (Nat × Nat)) (r : Nat × Nat) (x : Nat) : (runV (R ++ [r])).set (R.length * 2 + 1) (.int .u8 (x : Nat)) = runV (R ++ [(r.1, x)]) := by
  have e : ∀ q : Nat × Nat, runV (R ++ [q]) = runV R ++ [.int .u8 (q.1 : Nat), .int .u8 (q.2 : Nat)] := fun q => by simp [runV]
  rw [e, e, List.set_append_right _ _ (by rw [runV_len]; omega), runV_len, show R.length * 2 + 1 - R.length * 2 = 1 by omega]
  rfl
theorem RelQ.put {w W : World} {B : Nat} {L : List Nat} {ab : Option Addr} {cb k x gr m cr : Nat} {R R' : List (Nat × Nat)} {r : Nat × Nat} (h : RelQ w B L ab cb k (.slice (some ⟨gr, 0, none⟩) (m + 1) cr) R W) (hwB : w.heap.size ≤ B) (hne : (Value.slice ab L.length cb).ownBlock ≠ some gr)
    (hR : R = R' ++ [r]) (hl : R'.length = m) (hm : more R x = R' ++ [(r.1, x)]) (hn : (L.take (k + 1)).foldl more [] = more R x) : RelQ w B L ab cb (k + 1) (.slice (some ⟨gr, 0, none⟩) (m + 1) cr) (R' ++ [(r.1, x)]) (W.setCell ⟨gr, m * 2 + 1, none⟩ (.int .u8 (x : Nat))) := by
  have hlen : R.length = m + 1 := by rw [hR]; simp [hl]
  have ho := h.own
  rw [hlen] at ho
  obtain ⟨h1, h2⟩ := ho.stored (m * 2 + 1) (.int .u8 (x : Nat))
  have hk := h.le
  refine ⟨h.bown.kept h2 (.inr hne), ?_, h.bel.grown h2 h.bel.size (fun j e => Nat.le_trans hwB (ho.lt j e).1), by rw [hn, hm], by simp [hl]; omega, by have := h.hB; have := h2.size; omega⟩
  rw [hR, ← hl, runV_set] at h1
  rw [show (R' ++ [(r.1, x)]).length = R'.length + 1 by simp, ← hl]
  exact h1
theorem row_apart {w : World} {g B n : Nat} {cur : Array Value} {fz : Nat × Nat} {v : Value} {xs : List Value} (hh : w.heap[g]? = some (.cells cur 5 fz)) (h : w.ownsRow B 65 2 v n xs) : some g ≠ v.ownBlock := by
  rcases h.2 with ⟨rfl, _⟩ | ⟨g', cap, cur', rfl, _, hg, _⟩
  · simp [Value.ownBlock]
  · intro e
    simp [Value.ownBlock] at e
    subst e
    rw [hh] at hg
    cases hg
set_option maxRecDepth 10000 in
set_option maxHeartbeats 4000000 in
theorem rruns_c {P : Nat → Bool} {a b c d : Nat} (h4 : C4 P a b c d) (w : World) : Calls Tryd.prog 43 #[.agg #[.int .u64 (a : Nat), .int .u64 (b : Nat), .int .u64 (c : Nat), .int .u64 (d : Nat)]] w (RetRn w (rs P 257).1) := by
  obtain ⟨i0, hi, hz0, hz1, hz2⟩ := info_parts b_run
  have hB0 : Below w.heap.size w (w.alloc (.cells #[.int .u64 (a : Nat), .int .u64 (b : Nat), .int .u64 (c : Nat), .int .u64 (d : Nat)] 24)) := (Below.refl _ _).alloc (Nat.le_refl _) _
  obtain ⟨p0, p1, p2, p3, _⟩ := (Bx.new w (.int .u64 (a : Nat)) (.int .u64 (b : Nat)) (.int .u64 (c : Nat)) (.int .u64 (d : Nat))).cells
  rw [← more_runs P]
  have hge := come_ge P 256
  have hle := come_len P 256
  go_enter Tryd.func43, Tryd.ntmps43
  go_wp2_with fail
  refine (rbytes_c h4 _).mono ?_
  rintro e w1 ⟨ab, cb, rfl, hown, hb⟩
  have hq0 : RelQ w w1.heap.size (come P 256) ab cb 0 (.slice none 0 0) [] w1 := ⟨row_mono hown (by simp), World.ownsRow_nil _ _ _ _, hB0.trans (hb.mono hB0.size), rfl, Nat.le_refl _, Nat.le_refl _⟩
  clear hb hown p0 p1 p2 p3 hB0 h4
  generalize come P 256 = L at *
  obtain ⟨N, hN⟩ : ∃ N, N = L.length := ⟨_, rfl⟩
  have HN : Hid (N = L.length) := hN
  rw [← hN]
  have hNle : (N : Int) ≤ 256 := by omega
  clear hN
  go_wp2_with fail
  go_loopw [3, 5] (fun v i wr => ∃ (k : Nat) (R : List (Nat × Nat)), k ≤ N ∧ i = .int .i64 k ∧ RelQ w w1.heap.size L ab cb k v R wr) (fun _ i _ => N - (intOf i).toNat)
  case atStart => exact ⟨0, [], Nat.zero_le _, rfl, hq0⟩
  case round =>
    obtain ⟨k, R, hk, rfl, hR⟩ := hrel
    obtain ⟨M, hM⟩ : ∃ M, M = R.length := ⟨_, rfl⟩
    obtain ⟨ar, cr, rfl⟩ : ∃ ar cr, u3 = .slice ar M cr := by
      rcases hR.own.2 with ⟨h, h0⟩ | ⟨g, cap, cur, h, _⟩
      · exact ⟨none, 0, by rw [h, hM, h0]⟩
      · exact ⟨_, cap, by rw [h, hM]⟩
    have hMk : (M : Int) ≤ 256 := by have := hR.le; omega
    by_cases hlt : k < N
    · have hki : (k : Int) < (N : Int) := by omega
      obtain ⟨x, hx⟩ : ∃ x, x = L.getD k 0 := ⟨_, rfl⟩
      have hkL : k < L.length := by rw [← HN.out]; exact hlt
      have hxk := hge k hkL
      rw [← hx] at hxk
      obtain ⟨gb, rfl, ⟨hgb, hne⟩, hcx⟩ : ∃ gb, ab = some ⟨gb, 0, none⟩ ∧ (gb < wr.heap.size ∧ some gb ≠ (Value.slice ar M cr).ownBlock) ∧ wr.cell? ⟨gb, k, none⟩ = some (.int .u8 (x : Nat)) := by
        rcases hR.bown.2 with ⟨h, h0⟩ | ⟨g, cap, cur, h, _, hh, _⟩
        · omega
        · obtain ⟨rfl, -, rfl⟩ : ab = some ⟨g, 0, none⟩ ∧ L.length = L.length ∧ cb = cap := by simpa using h
          exact ⟨g, rfl, ⟨(Array.getElem?_eq_some_iff.1 hh).1, row_apart hh hR.own⟩, by rw [hR.bown.cellAt k (by omega), byt_at L k hkL, hx]⟩
      have hnext : Hid ((L.take (k + 1)).foldl more [] = more R x) := by unfold Hid; rw [take_more hkL, ← hR.is, hx]
      cases hg : R.getLast? with
      | none =>
        have hR0 : R = [] := List.getLast?_eq_none_iff.1 hg
        obtain rfl : M = 0 := by rw [hM, hR0]; rfl
        have HA : Hid (more R x = R ++ [(x, x)]) := by unfold Hid; rw [hR0]; rfl
        clear hg hR0
        have hx8 : (x : Int) < 256 := by omega
        have HR : Hid (RelQ w w1.heap.size L (some ⟨gb, 0, none⟩) cb k (.slice ar 0 cr) R wr) := hR
        have HM : Hid (R.length = 0) := hM.symm
        have hwB := hq0.bel.size
        clear hR hM hx hxk hkL hge hq0
        go_wp2
        go_quiet (fail)
        go_wp2_with fail
        have hne2 : (Value.slice (some ⟨gb, 0, none⟩) L.length cb).ownBlock ≠ (Value.slice ar 0 cr).ownBlock := hne
        have HW : Hid (RelQ w w1.heap.size L (some ⟨gb, 0, none⟩) cb k (.slice ar 0 cr) R (wr.drewN nq)) := ⟨HR.out.bown, HR.out.own, below_drewN HR.out.bel _, HR.out.is, HR.out.le, HR.out.hB⟩
        have hown : (wr.drewN nq).ownsRow w1.heap.size 65 2 (.slice ar 0 cr) 0 (runV R) := by have := HR.out.own; rw [HM.out] at this; exact this
        have hsz : w1.heap.size ≤ (wr.drewN nq).heap.size := HR.out.hB
        have hcx2 : (wr.drewN nq).cell? ⟨gb, k, none⟩ = some (.int .u8 (x : Nat)) := hcx
        have hgbW : gb < (wr.drewN nq).heap.size := hgb
        clear hcx hgb HR
        generalize wr.drewN nq = W at *
        have hcxA : ∀ o, (W.alloc o).drew.cell? ⟨gb, k, none⟩ = some (.int .u8 (x : Nat)) := fun o => by
          rw [(((Below.refl W.heap.size W).alloc (Nat.le_refl _) o).drew).cell (p := ⟨gb, k, none⟩) hgbW]; exact hcx2
        have hownD : W.drew.ownsRow w1.heap.size 65 2 (.slice ar 0 cr) 0 (runV R) := hown
        have hcxD : W.drew.cell? ⟨gb, k, none⟩ = some (.int .u8 (x : Nat)) := hcx2
        have hszD : w1.heap.size ≤ W.drew.heap.size := hsz
        clear hown hcx2
        go_region_held3 (fun w' => w'.cell? ⟨gb, k, none⟩ = some (.int .u8 (x : Nat))) (first | exact hcxD | exact hcxA _ | exact hcx3 | go_keep)
          ((refine step_append_lies _ (by rfl) _ _ 62 (by rfl) w1.heap.size 65 i0 (.agg #[.int .u8 0, .int .u8 0]) 2 2 Tryd.underlying62 hi hz0 hz1 hz2 (by rfl) (by decide) (.slice ar 0 cr) 0 (runV R) (by rfl) (hownD.alloc _) ⟨W.drew.heap.size, 0, none⟩ 1 1 [.int .u8 (x : Nat), .int .u8 (x : Nat)] (by rfl) (by rfl) (two_new _ _ _ _) (by simp [Value.oneCell']) (by decide) (by unfold maxLen; omega) (by omega) (by simp; omega) _ rfl ?_; intro g cap2 w2 hown2 hgrow hat hlt2; have hcx3 : w2.cell? ⟨gb, k, none⟩ = some (.int .u8 (x : Nat)) := (by rw [hgrow.cell_far ⟨gb, k, none⟩ (by simp; omega) hne]; exact hcxA _)))
        have HQ : Hid (RelQ w w1.heap.size L (some ⟨gb, 0, none⟩) cb (k + 1) (.slice (some ⟨g, 0, none⟩) (0 + 1) cap2) (R ++ [(x, x)]) w2) := HW.out.app hwB hne2 hgrow (by rw [HM.out]; exact hown2) HA.out hnext.out
        clear hown2 hgrow HW
        go_wp2
        go_roundw
        case rel => exact ⟨k + 1, _, by omega, by go_num, HQ.out⟩
        case measure => simp [intOf]; omega
      | some r =>
        obtain ⟨R', hR'⟩ := List.getLast?_eq_some_iff.1 hg
        obtain ⟨m, rfl⟩ : ∃ m, M = m + 1 := ⟨R'.length, by rw [hM, hR']; simp⟩
        have hRl : R'.length = m := by have := hM; rw [hR'] at this; simp at this; omega
        have hx1 : 1 ≤ x := by have := hR.le; omega
        have hgD : R.getD m (0, 0) = r := by rw [hR', ← hRl, List.getD_eq_getElem?_getD, List.getElem?_append_right (Nat.le_refl _), Nat.sub_self]; rfl
        obtain ⟨gr, rfl, hcr⟩ : ∃ gr, ar = some ⟨gr, 0, none⟩ ∧ wr.cell? ⟨gr, m * 2 + 1, none⟩ = some (.int .u8 (r.2 : Nat)) := by
          rcases hR.own.2 with ⟨h, h0⟩ | ⟨g, cap, cur, h, _⟩
          · cases h
          · obtain ⟨rfl, e2, rfl⟩ : ar = some ⟨g, 0, none⟩ ∧ m + 1 = R.length ∧ cr = cap := by simpa using h
            refine ⟨g, rfl, ?_⟩
            have ho := hR.own
            rw [← e2] at ho
            rw [ho.cellAt (m * 2 + 1) (by omega), (runV_at R m (by omega)).2, hgD]
        have hxi : (1 : Int) ≤ (x : Int) := by omega
        have hx256 : (x : Int) < 256 := by omega
        by_cases hadj : r.2 + 1 = x
        · have hbq : (((x : Int) - 1) == (r.2 : Int)) = true := by simp; omega
          have HA : Hid (more R x = R' ++ [(r.1, x)]) := by unfold Hid more; rw [hg]; show (if r.2 + 1 = x then _ else _) = _; rw [if_pos hadj, hR', List.dropLast_concat]
          have hwB := hq0.bel.size
          have hne2 : (Value.slice (some ⟨gb, 0, none⟩) L.length cb).ownBlock ≠ some gr := hne
          have hfz : wr.frozen? ⟨gr, m * 2 + 1, none⟩ = false := by have := hR.own; rw [← hM] at this; exact this.frozenAt _
          have HP : Hid (∀ q, RelQ w w1.heap.size L (some ⟨gb, 0, none⟩) cb (k + 1) (.slice (some ⟨gr, 0, none⟩) (m + 1) cr) (R' ++ [(r.1, x)]) ((wr.drewN q).setCell ⟨gr, m * 2 + 1, none⟩ (.int .u8 (x : Nat)))) := fun q =>
            RelQ.put (W := wr.drewN q) ⟨hR.bown, hR.own, below_drewN hR.bel _, hR.is, hR.le, hR.hB⟩ hwB hne2 hR' hRl HA.out hnext.out
          clear hR hM hx hxk hkL hge hq0 hg hR' hadj hgD HA
          go_wp2
          go_quiet (fail)
          go_wp2
          exact ⟨⟨k + 1, _, by omega, by go_num, HP.out _⟩, by simp [intOf]; omega⟩
        · have hbq : (((x : Int) - 1) == (r.2 : Int)) = false := by simp; omega
          have HA : Hid (more R x = R ++ [(x, x)]) := by unfold Hid more; rw [hg]; show (if r.2 + 1 = x then _ else _) = _; rw [if_neg hadj]
          clear hg hR' hadj hgD
          have hx8 : (x : Int) < 256 := by omega
          have HR : Hid (RelQ w w1.heap.size L (some ⟨gb, 0, none⟩) cb k (.slice (some ⟨gr, 0, none⟩) (m + 1) cr) R wr) := hR
          have HM : Hid (R.length = m + 1) := hM.symm
          have hwB := hq0.bel.size
          clear hR hM hx hxk hkL hge hq0
          go_wp2
          go_quiet (fail)
          go_wp2_with fail
          have hne2 : (Value.slice (some ⟨gb, 0, none⟩) L.length cb).ownBlock ≠ (Value.slice (some ⟨gr, 0, none⟩) (m + 1) cr).ownBlock := hne
          have HW : Hid (RelQ w w1.heap.size L (some ⟨gb, 0, none⟩) cb k (.slice (some ⟨gr, 0, none⟩) (m + 1) cr) R (wr.drewN nq)) := ⟨HR.out.bown, HR.out.own, below_drewN HR.out.bel _, HR.out.is, HR.out.le, HR.out.hB⟩
          have hown : (wr.drewN nq).ownsRow w1.heap.size 65 2 (.slice (some ⟨gr, 0, none⟩) (m + 1) cr) (m + 1) (runV R) := by have := HR.out.own; rw [HM.out] at this; exact this
          have hsz : w1.heap.size ≤ (wr.drewN nq).heap.size := HR.out.hB
          have hcx2 : (wr.drewN nq).cell? ⟨gb, k, none⟩ = some (.int .u8 (x : Nat)) := hcx
          have hgbW : gb < (wr.drewN nq).heap.size := hgb
          clear hcx hgb HR
          generalize wr.drewN nq = W at *
          have hcxA : ∀ o, (W.alloc o).drew.cell? ⟨gb, k, none⟩ = some (.int .u8 (x : Nat)) := fun o => by
            rw [(((Below.refl W.heap.size W).alloc (Nat.le_refl _) o).drew).cell (p := ⟨gb, k, none⟩) hgbW]; exact hcx2
          have hownD : W.drew.ownsRow w1.heap.size 65 2 (.slice (some ⟨gr, 0, none⟩) (m + 1) cr) (m + 1) (runV R) := hown
          have hcxD : W.drew.cell? ⟨gb, k, none⟩ = some (.int .u8 (x : Nat)) := hcx2
          have hszD : w1.heap.size ≤ W.drew.heap.size := hsz
          clear hown hcx2
          go_region_held3 (fun w' => w'.cell? ⟨gb, k, none⟩ = some (.int .u8 (x : Nat))) (first | exact hcxD | exact hcxA _ | exact hcx3 | go_keep)
            ((refine step_append_lies _ (by rfl) _ _ 62 (by rfl) w1.heap.size 65 i0 (.agg #[.int .u8 0, .int .u8 0]) 2 2 Tryd.underlying62 hi hz0 hz1 hz2 (by rfl) (by decide) (.slice (some ⟨gr, 0, none⟩) (m + 1) cr) (m + 1) (runV R) (by rfl) (hownD.alloc _) ⟨W.drew.heap.size, 0, none⟩ 1 1 [.int .u8 (x : Nat), .int .u8 (x : Nat)] (by rfl) (by rfl) (two_new _ _ _ _) (by simp [Value.oneCell']) (by decide) (by unfold maxLen; omega) (by omega) (by simp; omega) _ rfl ?_; intro g cap2 w2 hown2 hgrow hat hlt2; have hcx3 : w2.cell? ⟨gb, k, none⟩ = some (.int .u8 (x : Nat)) := (by rw [hgrow.cell_far ⟨gb, k, none⟩ (by simp; omega) hne]; exact hcxA _)))
          have HQ : Hid (RelQ w w1.heap.size L (some ⟨gb, 0, none⟩) cb (k + 1) (.slice (some ⟨g, 0, none⟩) (m + 1 + 1) cap2) (R ++ [(x, x)]) w2) := HW.out.app hwB hne2 hgrow (by rw [HM.out]; exact hown2) HA.out hnext.out
          clear hown2 hgrow HW
          go_wp2
          go_roundw
          case rel => exact ⟨k + 1, _, by omega, by go_num, HQ.out⟩
          case measure => simp [intOf]; omega
    · have hkN : k = N := by omega
      have hfin : RetRn w (L.foldl more []) (.returned (.slice ar M cr)) wr := by
        have hk' : k = L.length := by rw [hkN, HN.out]
        have e : R = L.foldl more [] := by rw [hR.is, hk', List.take_length]
        refine ⟨ar, cr, by rw [← e, ← hM], ?_, hR.bel⟩
        rw [← e, ← hM]
        have := row2_mono hR.own hq0.bel.size
        rw [← hM] at this
        exact this
      have HF : Hid (RetRn w (L.foldl more []) (.returned (.slice ar M cr)) wr) := hfin
      have hki : ¬ ((k : Int) < (N : Int)) := by omega
      clear hfin hR hkN hM
      go_wp2
      go_ret
      exact HF.out
end Go.Proofs.YtkbeiadbolihiaaDoor
namespace Go.Proofs.YtkbeiadbolihiaaDoor
open Go.RowKit
/-- Two classes in their boxes, beside the result's. -/
structure M3 (w : World) (e f g h p q r s : Nat) (wr : World) : Prop where
  a : Bx wr w.heap.size (.int .u64 (p : Nat)) (.int .u64 (q : Nat)) (.int .u64 (r : Nat)) (.int .u64 (s : Nat))
  b : Bx wr (w.heap.size + 1) (.int .u64 (e : Nat)) (.int .u64 (f : Nat)) (.int .u64 (g : Nat)) (.int .u64 (h : Nat))
  c : Bx wr (w.heap.size + 2) (.int .u64 0) (.int .u64 0) (.int .u64 0) (.int .u64 0)
  bel : Below w.heap.size w wr
section
variable {w wr : World} {e f g h p q r s : Nat}
theorem M3.drew (t : M3 w e f g h p q r s wr) : M3 w e f g h p q r s wr.drew := ⟨t.a.drew, t.b.drew, t.c.drew, t.bel.drew⟩
theorem M3.set0 (t : M3 w e f g h p q r s wr) (u : Nat) : M3 w e f g h u q r s (wr.setCell ⟨w.heap.size, 0, none⟩ (.int .u64 (u : Nat))) :=
  ⟨t.a.set0 _, t.b.other (p := ⟨w.heap.size, 0, none⟩) (by simp) _, t.c.other (p := ⟨w.heap.size, 0, none⟩) (by simp) _, t.bel.setCell (p := ⟨w.heap.size, 0, none⟩) (by simp) _⟩
theorem M3.set1 (t : M3 w e f g h p q r s wr) (u : Nat) : M3 w e f g h p u r s (wr.setCell ⟨w.heap.size, 1, none⟩ (.int .u64 (u : Nat))) :=
  ⟨t.a.set1 _, t.b.other (p := ⟨w.heap.size, 1, none⟩) (by simp) _, t.c.other (p := ⟨w.heap.size, 1, none⟩) (by simp) _, t.bel.setCell (p := ⟨w.heap.size, 1, none⟩) (by simp) _⟩
theorem M3.set2 (t : M3 w e f g h p q r s wr) (u : Nat) : M3 w e f g h p q u s (wr.setCell ⟨w.heap.size, 2, none⟩ (.int .u64 (u : Nat))) :=
  ⟨t.a.set2 _, t.b.other (p := ⟨w.heap.size, 2, none⟩) (by simp) _, t.c.other (p := ⟨w.heap.size, 2, none⟩) (by simp) _, t.bel.setCell (p := ⟨w.heap.size, 2, none⟩) (by simp) _⟩
theorem M3.set3 (t : M3 w e f g h p q r s wr) (u : Nat) : M3 w e f g h p q r u (wr.setCell ⟨w.heap.size, 3, none⟩ (.int .u64 (u : Nat))) :=
  ⟨t.a.set3 _, t.b.other (p := ⟨w.heap.size, 3, none⟩) (by simp) _, t.c.other (p := ⟨w.heap.size, 3, none⟩) (by simp) _, t.bel.setCell (p := ⟨w.heap.size, 3, none⟩) (by simp) _⟩
end
theorem M3.start (w : World) (p q r s e f g h : Nat) : M3 w e f g h p q r s (((w.alloc (.cells #[.int .u64 (p : Nat), .int .u64 (q : Nat), .int .u64 (r : Nat), .int .u64 (s : Nat)] 24)).alloc (.cells #[.int .u64 (e : Nat), .int .u64 (f : Nat), .int .u64 (g : Nat), .int .u64 (h : Nat)] 24)).alloc (.cells #[.int .u64 0, .int .u64 0, .int .u64 0, .int .u64 0] 24)) := by
  refine ⟨((Bx.new w _ _ _ _).alloc _).alloc _, Bx.alloc ?_ _, ?_, below3 _ _ _ _⟩
  · have := Bx.new (w.alloc (.cells #[.int .u64 (p : Nat), .int .u64 (q : Nat), .int .u64 (r : Nat), .int .u64 (s : Nat)] 24)) (.int .u64 (e : Nat)) (.int .u64 (f : Nat)) (.int .u64 (g : Nat)) (.int .u64 (h : Nat))
    simpa using this
  · have := Bx.new ((w.alloc (.cells #[.int .u64 (p : Nat), .int .u64 (q : Nat), .int .u64 (r : Nat), .int .u64 (s : Nat)] 24)).alloc (.cells #[.int .u64 (e : Nat), .int .u64 (f : Nat), .int .u64 (g : Nat), .int .u64 (h : Nat)] 24)) (.int .u64 0) (.int .u64 0) (.int .u64 0) (.int .u64 0)
    simpa using this
end Go.Proofs.YtkbeiadbolihiaaDoor
namespace Go.Proofs.YtkbeiadbolihiaaDoor
open Go.RowKit
/-- P, and of the first k letters both cases, where one of them is in P. -/
def rfN (P : Nat → Bool) : Nat → Nat → Bool
  | 0 => P
  | k + 1 => if P (97 + k) || P (65 + k) then ins (ins (rfN P k) (97 + k)) (65 + k) else rfN P k
theorem rfN_iff (P : Nat → Bool) (k y : Nat) : rfN P k y = true ↔ P y = true ∨ ∃ i, i < k ∧ (P (97 + i) = true ∨ P (65 + i) = true) ∧ (y = 97 + i ∨ y = 65 + i) := by
  induction k with
  | zero => simp [rfN]
  | succ k ih =>
    unfold rfN
    by_cases hc : (P (97 + k) || P (65 + k)) = true
    · rw [if_pos hc]
      simp only [ins, Bool.or_eq_true, beq_iff_eq, ih]
      constructor
      · rintro ((h | h) | h)
        · rcases h with h | ⟨i, hi, h⟩
          · exact .inl h
          · exact .inr ⟨i, by omega, h⟩
        · exact .inr ⟨k, by omega, by simpa using hc, .inl h⟩
        · exact .inr ⟨k, by omega, by simpa using hc, .inr h⟩
      · rintro (h | ⟨i, hi, h1, h2⟩)
        · exact .inl (.inl (.inl h))
        · by_cases e : i = k
          · subst e
            rcases h2 with h2 | h2
            · exact .inl (.inr h2)
            · exact .inr h2
          · exact .inl (.inl (.inr ⟨i, by omega, h1, h2⟩))
    · rw [if_neg hc, ih]
      constructor
      · rintro (h | ⟨i, hi, h⟩)
        · exact .inl h
        · exact .inr ⟨i, by omega, h⟩
      · rintro (h | ⟨i, hi, h1, h2⟩)
        · exact .inl h
        · by_cases e : i = k
          · subst e
            exact absurd (by simpa using h1) hc
          · exact .inr ⟨i, by omega, h1, h2⟩
theorem other_case : ∀ b : Nat, b < 256 → ltr b = true → (b ^^^ 32 < 256 ∧ ∃ i, i < 26 ∧ ((b = 97 + i ∧ b ^^^ 32 = 65 + i) ∨ (b = 65 + i ∧ b ^^^ 32 = 97 + i))) := by
  intro b hb h
  have key : ∀ b : Fin 256, ltr b.1 = true → (b.1 ^^^ 32 < 256 ∧ ((97 ≤ b.1 ∧ b.1 < 123 ∧ b.1 ^^^ 32 = b.1 - 32) ∨ (65 ≤ b.1 ∧ b.1 < 91 ∧ b.1 ^^^ 32 = b.1 + 32))) := by decide +kernel
  obtain ⟨h1, h2⟩ := key ⟨b, hb⟩ h
  refine ⟨h1, ?_⟩
  rcases h2 with ⟨a1, a2, a3⟩ | ⟨a1, a2, a3⟩
  · simp only at a1 a2 a3
    exact ⟨b - 97, by omega, .inl ⟨by omega, by omega⟩⟩
  · simp only at a1 a2 a3
    exact ⟨b - 65, by omega, .inr ⟨by omega, by omega⟩⟩
theorem letters : ∀ i : Nat, i < 26 → ltr (97 + i) = true ∧ ltr (65 + i) = true ∧ (97 + i) ^^^ 32 = 65 + i ∧ (65 + i) ^^^ 32 = 97 + i := by
  intro i hi
  have key : ∀ i : Fin 26, ltr (97 + i.1) = true ∧ ltr (65 + i.1) = true ∧ (97 + i.1) ^^^ 32 = 65 + i.1 ∧ (65 + i.1) ^^^ 32 = 97 + i.1 := by decide +kernel
  exact key ⟨i, hi⟩
/-- Both ways to fold are one. -/
theorem fold_same (P : Nat → Bool) (y : Nat) : rfN P 26 y = foldN P (come P 256) y := by
  rw [Bool.eq_iff_iff, rfN_iff]
  unfold foldN come
  simp only [Bool.or_eq_true, List.any_eq_true, List.mem_filter, List.mem_range, Bool.and_eq_true, beq_iff_eq]
  constructor
  · rintro (h | ⟨i, hi, h1, h2⟩)
    · exact .inl h
    · obtain ⟨l1, l2, x1, x2⟩ := letters i hi
      rcases h1 with h1 | h1 <;> rcases h2 with h2 | h2
      · exact .inl (h2 ▸ h1)
      · exact .inr ⟨97 + i, ⟨by omega, h1⟩, l1, by rw [x1, h2]⟩
      · exact .inr ⟨65 + i, ⟨by omega, h1⟩, l2, by rw [x2, h2]⟩
      · exact .inl (h2 ▸ h1)
  · rintro (h | ⟨b, ⟨hb, hP⟩, hl, rfl⟩)
    · exact .inl h
    · obtain ⟨_, i, hi, (⟨e1, e2⟩ | ⟨e1, e2⟩)⟩ := other_case b hb hl
      · exact .inr ⟨i, hi, .inl (e1 ▸ hP), .inr e2⟩
      · exact .inr ⟨i, hi, .inr (e1 ▸ hP), .inl e2⟩
/-- The class, the result's box and what comes of it. -/
structure F3 (w : World) (a b c d : Nat) (P : Nat → Bool) (wr : World) : Prop where
  a : Bx wr w.heap.size (.int .u64 (a : Nat)) (.int .u64 (b : Nat)) (.int .u64 (c : Nat)) (.int .u64 (d : Nat))
  c : Bx wr (w.heap.size + 1) (.int .u64 0) (.int .u64 0) (.int .u64 0) (.int .u64 0)
  f : ∃ p q r s, C4 P p q r s ∧ Bx wr (w.heap.size + 1 + 1) (.int .u64 (p : Nat)) (.int .u64 (q : Nat)) (.int .u64 (r : Nat)) (.int .u64 (s : Nat))
  bel : Below w.heap.size w wr
theorem F3.below {w : World} {a b c d : Nat} {P : Nat → Bool} {wr wr' : World} (t : F3 w a b c d P wr) (hb : Below wr.heap.size wr wr') : F3 w a b c d P wr' := by
  obtain ⟨p, q, r, s, h4, hx⟩ := t.f
  exact ⟨t.a.below hb, t.c.below hb, ⟨p, q, r, s, h4, hx.below hb⟩, t.bel.trans (hb.mono t.bel.size)⟩
theorem F3.put {w : World} {a b c d : Nat} {P Q : Nat → Bool} {wr : World} (t : F3 w a b c d P wr) {p q r s : Nat} (h4 : C4 Q p q r s) : F3 w a b c d Q (put4 wr (w.heap.size + 1 + 1) (.int .u64 (p : Nat)) (.int .u64 (q : Nat)) (.int .u64 (r : Nat)) (.int .u64 (s : Nat))) := by
  obtain ⟨_, _, _, _, _, hx⟩ := t.f
  exact ⟨t.a.others (by omega) _ _ _ _, t.c.others (by omega) _ _ _ _, ⟨p, q, r, s, h4, hx.set _ _ _ _⟩, below_put4 t.bel (by omega) _ _ _ _⟩
theorem F3.start {P : Nat → Bool} {a b c d : Nat} (h4 : C4 P a b c d) (w : World) : F3 w a b c d P (((w.alloc (.cells #[.int .u64 (a : Nat), .int .u64 (b : Nat), .int .u64 (c : Nat), .int .u64 (d : Nat)] 24)).alloc (.cells #[.int .u64 0, .int .u64 0, .int .u64 0, .int .u64 0] 24)).alloc (.cells #[.int .u64 (a : Nat), .int .u64 (b : Nat), .int .u64 (c : Nat), .int .u64 (d : Nat)] 24)) := by
  refine ⟨((Bx.new w _ _ _ _).alloc _).alloc _, Bx.alloc ?_ _, ⟨a, b, c, d, h4, ?_⟩, below3 _ _ _ _⟩
  · have := Bx.new (w.alloc (.cells #[.int .u64 (a : Nat), .int .u64 (b : Nat), .int .u64 (c : Nat), .int .u64 (d : Nat)] 24)) (.int .u64 0) (.int .u64 0) (.int .u64 0) (.int .u64 0)
    simpa using this
  · have := Bx.new ((w.alloc (.cells #[.int .u64 (a : Nat), .int .u64 (b : Nat), .int .u64 (c : Nat), .int .u64 (d : Nat)] 24)).alloc (.cells #[.int .u64 0, .int .u64 0, .int .u64 0, .int .u64 0] 24)) (.int .u64 (a : Nat)) (.int .u64 (b : Nat)) (.int .u64 (c : Nat)) (.int .u64 (d : Nat))
    simpa using this
end Go.Proofs.YtkbeiadbolihiaaDoor
namespace Go.Proofs.YtkbeiadbolihiaaDoor
open Go.RowKit
/-- The box of a class and the list of its bytes, as they were laid. -/
structure T1 (w : World) (a b c d : Nat) (v : Value) (n : Nat) (l : List Nat) (W : World) : Prop where
  bel : Below w.heap.size w W
  b0 : Bx W w.heap.size (.int .u64 (a : Nat)) (.int .u64 (b : Nat)) (.int .u64 (c : Nat)) (.int .u64 (d : Nat))
  own : W.ownsRow w.heap.size 5 1 v n (byt l)
theorem T1.next {w W W' : World} {a b c d : Nat} {v : Value} {n : Nat} {l : List Nat} (t : T1 w a b c d v n l W) (hb : Below W.heap.size W W') : T1 w a b c d v n l W' :=
  ⟨t.bel.trans (hb.mono t.bel.size), t.b0.below hb, row_below t.own hb⟩
theorem T1.cells {w W : World} {a b c d : Nat} {v : Value} {n : Nat} {l : List Nat} (t : T1 w a b c d v n l W) : W.cell? ⟨w.heap.size, 0, none⟩ = some (.int .u64 (a : Nat)) ∧ W.cell? ⟨w.heap.size, 1, none⟩ = some (.int .u64 (b : Nat)) ∧ W.cell? ⟨w.heap.size, 2, none⟩ = some (.int .u64 (c : Nat)) ∧ W.cell? ⟨w.heap.size, 3, none⟩ = some (.int .u64 (d : Nat)) := by
  obtain ⟨c0, c1, c2, c3, _⟩ := t.b0.cells
  exact ⟨c0, c1, c2, c3⟩
theorem come_none {P : Nat → Bool} (n : Nat) (h : ∀ j, j < n → P j = false) : come P n = [] := by
  induction n with
  | zero => rfl
  | succ n ih => rw [come_no (h n (by omega)), ih fun j hj => h j (by omega)]
theorem come_head {P : Nat → Bool} {k : Nat} (hk : P k = true) (hl : ∀ j, j < k → P j = false) (n : Nat) (h : k < n) : ∃ l, come P n = k :: l := by
  induction n with
  | zero => omega
  | succ n ih =>
    by_cases e : k = n
    · subst e
      exact ⟨[], by rw [come_yes hk, come_none k hl]; rfl⟩
    · obtain ⟨l, hl⟩ := ih (by omega)
      cases hn : P n
      · exact ⟨l, by rw [come_no hn, hl]⟩
      · exact ⟨l ++ [n], by rw [come_yes hn, hl]; rfl⟩
theorem row_head {B : Nat} {w : World} {ao : Option Addr} {n cap : Nat} {k : Nat} {l : List Nat} (h : w.ownsRow B 5 1 (.slice ao n cap) n (byt (k :: l))) : ∃ g, ao = some ⟨g, 0, none⟩ ∧ w.cell? ⟨g, 0, none⟩ = some (.int .u8 (k : Nat)) := by
  have hn : 0 < n := by have := h.1; simp [byt] at this; omega
  rcases h.2 with ⟨h', h0⟩ | ⟨g, cap', cur, h', _⟩
  · omega
  · obtain ⟨rfl, -, rfl⟩ : ao = some ⟨g, 0, none⟩ ∧ n = n ∧ cap = cap' := by simpa using h'
    exact ⟨g, rfl, by rw [h.cellAt 0 (by omega)]; rfl⟩
end Go.Proofs.YtkbeiadbolihiaaDoor
