/- moved: the walk. -/
import Derived.Test.YtgedhjflminlbaaNl
namespace Go.Proofs.Ytgedhjflminlbaa
open Go.RowKit
def updN (F : Nat → Nd) (i : Nat) (x : Nd) : Nat → Nd := fun j => if j = i then x else F j
theorem ndsL_set (F : Nat → Nd) (n i j : Nat) (u : Value) (x : Nd) (_hi : i < n) (hj : j < 10) (h : (ndL (F i)).set j u = ndL x) : (ndsL F n).set (i * 10 + j) u = ndsL (updN F i x) n := by
  apply List.ext_getElem?
  intro q
  by_cases hq : q < n * 10
  · have hd : q = q / 10 * 10 + q % 10 := by omega
    rw [List.getElem?_set]
    rw [hd, ndsL_get F n _ _ (by omega) (by omega), ndsL_get _ n _ _ (by omega) (by omega)]
    by_cases e : i = q / 10
    · have e2 : updN F i x (q / 10) = x := by simp [updN, e]
      rw [e2, ← h, List.getElem?_set]
      by_cases e3 : j = q % 10
      · rw [if_pos (by omega), if_pos e3, ndsL_len, ndL_len, if_pos (by omega), if_pos (by omega)]
      · rw [if_neg (by omega), if_neg e3, e]
    · have e2 : updN F i x (q / 10) = F (q / 10) := by simp [updN, Ne.symm e]
      rw [e2, if_neg (by omega)]
  · rw [List.getElem?_eq_none (by simp [ndsL_len]; omega), List.getElem?_eq_none (by simp [ndsL_len]; omega)]
/-- The first k nodes moved. -/
def mvF (by_ : Int) (k : Nat) (F : Nat → Nd) : Nat → Nd := fun i => if i < k then sh by_ (F i) else F i
theorem mvF_at (by_ : Int) (k : Nat) (F : Nat → Nd) : mvF by_ k F k = F k := by simp [mvF]
theorem mvF_succ (by_ : Int) (k : Nat) (F : Nat → Nd) : updN (mvF by_ k F) k (sh by_ (F k)) = mvF by_ (k + 1) F := by
  funext i
  by_cases h : i = k
  · subst h; simp [updN, mvF]
  · by_cases h2 : i < k
    · simp [updN, mvF, h, h2, show i < k + 1 by omega]
    · simp [updN, mvF, h, h2, show ¬ i < k + 1 by omega]
theorem updN_self (F : Nat → Nd) (k : Nat) : updN F k (F k) = F := by
  funext i
  by_cases h : i = k
  · subst h; simp [updN]
  · simp [updN, h]
theorem updN_two (F : Nat → Nd) (k : Nat) (x y : Nd) : updN (updN F k x) k y = updN F k y := by
  funext i
  by_cases h : i = k <;> simp [updN, h]
set_option maxRecDepth 10000 in
set_option maxHeartbeats 1000000 in
theorem moved_any (ao : Option Addr) (n cap : Nat) (F : Nat → Nd) (by_ : Int) (w : World) (hr : RdN w ao n F) (hn : (n : Int) ≤ 2048) (hs : Shp ao n cap) (hF : ∀ i, i < n → (-4096 ≤ (F i).a ∧ (F i).a ≤ 4096) ∧ (-4096 ≤ (F i).b ∧ (F i).b ≤ 4096)) (hby : -4096 ≤ by_ ∧ by_ ≤ 4096) :
    Calls Try.prog 38 #[.slice ao n cap, .int .i64 by_] w (RetN w n (fun i => sh by_ (F i))) := by
  have HC := clone_any ao n cap F w hr (by omega) hs
  have hfin : ∀ i, i < n → mvF by_ n F i = sh by_ (F i) := fun i hi => by simp [mvF, hi]
  have hF0 : mvF by_ 0 F = F := by funext i; simp [mvF]
  clear hr hs
  go_enter Try.func38, Try.ntmps38
  go_wp2_with (go_at_call 42; refine HC.mono ?_; rintro e w1 ⟨ao1, cap1, rfl, ho, hb⟩)
  clear HC
  go_loopw [11] (fun i wr => ∃ k : Nat, k ≤ n ∧ i = .int .i64 (k : Nat) ∧ OwN wr w.heap.size ao1 n cap1 (mvF by_ k F) ∧ Below w.heap.size w wr) (fun i _ => n - (intOf i).toNat)
  case atStart => exact ⟨0, Nat.zero_le _, rfl, by rw [hF0]; exact ho, hb⟩
  case round =>
    obtain ⟨k, hk, rfl, ho1, hb1⟩ := hrel
    clear ho hb
    by_cases hlt : k < n
    · have hki : (k : Int) < (n : Int) := by omega
      obtain ⟨g, rfl, hgl, hgB, hc, hfz⟩ := ho1.cells (by omega)
      have c0 := hc k 0 _ hlt (by omega) rfl
      have c5 := hc k 5 _ hlt (by omega) rfl
      have c6 := hc k 6 _ hlt (by omega) rfl
      have f5 := hfz (k * 10 + 5)
      have f6 := hfz (k * 10 + 6)
      rw [mvF_at] at c0 c5 c6
      simp only [Nat.add_zero] at c0
      obtain ⟨⟨a1, a2⟩, b1, b2⟩ := hF k hlt
      obtain ⟨y1, y2⟩ := hby
      have HX : Hid (∀ W, OwN W w.heap.size (some ⟨g, 0, none⟩) n cap1 (mvF by_ (k + 1) F) → Below w.heap.size w W → ∃ k' : Nat, k' ≤ n ∧ (Value.int .i64 ((k : Int) + 1)) = .int .i64 (k' : Nat) ∧ OwN W w.heap.size (some ⟨g, 0, none⟩) n cap1 (mvF by_ k' F) ∧ Below w.heap.size w W) := fun W h1 h2 => ⟨k + 1, hlt, by simp, h1, h2⟩
      have hset : ∀ (G : Nat → Nd) (j : Nat) (v : Int) (x : Nd) (W : World), j < 10 → OwN W w.heap.size (some ⟨g, 0, none⟩) n cap1 G → Below w.heap.size w W → (ndL (G k)).set j (.int .i64 v) = ndL x → OwN (W.setCell ⟨g, k * 10 + j, none⟩ (.int .i64 v)) w.heap.size (some ⟨g, 0, none⟩) n cap1 (updN G k x) ∧ Below w.heap.size w (W.setCell ⟨g, k * 10 + j, none⟩ (.int .i64 v)) := by
        intro G j v x W hj h1 h2 h3
        refine ⟨?_, h2.setCell (p := ⟨g, k * 10 + j, none⟩) hgB _⟩
        have := (World.ownsRow.stored h1 (k * 10 + j) (.int .i64 v)).1
        rw [ndsL_set G n k j _ x hlt hj h3] at this
        exact this
      have hm := mvF_succ by_ k F
      have hat := mvF_at by_ k F
      by_cases k34 : (F k).k = 3 ∨ (F k).k = 4
      · have HY : Hid (OwN ((wr.setCell ⟨g, k * 10 + 6, none⟩ (.int .i64 ((F k).b + by_))).setCell ⟨g, k * 10 + 5, none⟩ (.int .i64 ((F k).a + by_))) w.heap.size (some ⟨g, 0, none⟩) n cap1 (mvF by_ (k + 1) F) ∧ Below w.heap.size w ((wr.setCell ⟨g, k * 10 + 6, none⟩ (.int .i64 ((F k).b + by_))).setCell ⟨g, k * 10 + 5, none⟩ (.int .i64 ((F k).a + by_)))) := by
          obtain ⟨h1, h2⟩ := hset (mvF by_ k F) 6 ((F k).b + by_) { F k with b := (F k).b + by_ } wr (by omega) ho1 hb1 (by rw [hat]; rfl)
          obtain ⟨h3, h4⟩ := hset _ 5 ((F k).a + by_) { F k with a := (F k).a + by_, b := (F k).b + by_ } _ (by omega) h1 h2 (by simp [updN, ndL])
          rw [updN_two] at h3
          rw [sh34 by_ k34] at hm
          rw [hm] at h3
          exact ⟨h3, h4⟩
        have HZ := HX.out _ HY.out.1 HY.out.2
        clear HY HX hset hm hat ho1 hb1 hc hfz hF hfin hF0
        generalize F k = q at *
        have HW : Hid _ := HZ
        clear HZ
        rcases k34 with e | e <;> rw [e] at c0 <;> clear e <;> go_wp2 <;> go_roundw
        case rel => exact HW.out
        case measure => simp [intOf]; omega
        case rel => exact HW.out
        case measure => simp [intOf]; omega
      · have n3 : ((F k).k == 3) = false := by simp; omega
        have n4 : ((F k).k == 4) = false := by simp; omega
        by_cases k5 : (F k).k = 5
        · have HY : Hid (OwN (wr.setCell ⟨g, k * 10 + 5, none⟩ (.int .i64 ((F k).a + by_))) w.heap.size (some ⟨g, 0, none⟩) n cap1 (mvF by_ (k + 1) F) ∧ Below w.heap.size w (wr.setCell ⟨g, k * 10 + 5, none⟩ (.int .i64 ((F k).a + by_)))) := by
            obtain ⟨h1, h2⟩ := hset (mvF by_ k F) 5 ((F k).a + by_) { F k with a := (F k).a + by_ } wr (by omega) ho1 hb1 (by rw [hat]; rfl)
            rw [sh5 by_ k5] at hm
            rw [hm] at h1
            exact ⟨h1, h2⟩
          have HZ := HX.out _ HY.out.1 HY.out.2
          clear HY HX hset hm hat ho1 hb1 hc hfz hF hfin hF0 k34 n3 n4
          generalize F k = q at *
          have HW : Hid _ := HZ
          clear HZ
          rw [k5] at c0
          clear k5
          go_wp2
          go_roundw
          case rel => exact HW.out
          case measure => simp [intOf]; omega
        · have n5 : ((F k).k == 5) = false := by simp; omega
          have HZ := HX.out wr (by rw [← hm, sh0 by_ (by omega), ← hat, updN_self]; exact ho1) hb1
          clear HX hset hm hat ho1 hb1 hc hfz hF hfin hF0 k34 k5
          generalize F k = q at *
          have HW : Hid _ := HZ
          clear HZ
          go_wp2
          go_roundw
          case rel => exact HW.out
          case measure => simp [intOf]; omega
    · obtain rfl : k = n := by omega
      have hki : ¬ (k : Int) < (k : Int) := by omega
      have HR : Hid (RetN w k (fun i => sh by_ (F i)) (.returned (.slice ao1 k cap1)) wr) := ⟨ao1, cap1, rfl, by unfold OwN; rw [← ndsL_congr hfin]; exact ho1, hb1⟩
      clear ho1 hb1 hF hfin hF0
      go_wp2
      go_ret
      exact HR.out
end Go.Proofs.Ytgedhjflminlbaa
