/- The reference's May: the walk; what TreeStays says, pure. -/
import Derived.Test.YthbmfnibgjlkhaaDoorSz
import Derived.Test.YthbmfnibgjlkhaaDoorGCeLi
import Derived.Test.YthbmfnibgjlkhaaDoorGCnMoSu
namespace Go.Proofs.YthbmfnibgjlkhaaDoor
open Go.RowKit
set_option maxHeartbeats 400000 in
theorem may_any (a : Option Addr) (n c : Nat) (F : Nat → Nd) (w : World) (ha : RdN w a n F) (hn : (n : Int) ≤ 9223372036854775807) : Calls Tryd.prog 51 #[.agg #[.slice a n c]] w (RetBo w (treeOf F n).isSome) := by
  have hW0 := below1 w (.cells #[.slice a n c] 48)
  have HM := sizes_any a n c F _ (ha.below hW0) hn
  clear ha
  have HX : Hid (∀ w3 : World, Below (w.heap.size + 1) (w.alloc (.cells #[.slice a n c] 48)) w3 → Below w.heap.size w w3) := fun w3 h => hW0.trans (h.mono (by omega))
  go_enter Tryd.func51, Tryd.ntmps51
  go_wp2_with (go_at_call 83; refine HM.mono ?_; rintro e w3 ⟨⟨v, rfl, hv⟩, hb3⟩; clear hv)
  go_ret
  exact ⟨rfl, HX.out _ (by simpa using hb3)⟩
/-- What is made of a tree may be. -/
theorem may_nodes (t : Tre) {s : Nat} (hz : s = t.size) (ho : t.ok = true) (hs : t.size ≤ 2048) : (treeOf (nodes t) s).isSome = true := by
  rw [treeOf_nodes t _ hz ho hs (fun _ _ => rfl)]; rfl
theorem chk_nodes (t : Tre) {s : Nat} (hz : s = t.size) (ho : t.ok = true) (hs : t.size ≤ 2048) : chkE (nodes t) s = if anc t (true, true) = true then 0 else 51 := by
  unfold chkE
  rw [treeOf_nodes t _ hz ho hs (fun _ _ => rfl)]
theorem snd_some {F : Nat → Nd} {n : Nat} (h : (treeOf F n).isSome = true) : (snd F n).size = n ∧ n ≤ 2048 := by
  obtain ⟨t, ht⟩ := Option.isSome_iff_exists.1 h
  obtain ⟨h1, _, h3, _⟩ := treeOf_some ht
  have : snd F n = t := by simp [snd, ht]
  exact ⟨by rw [this, ← h1], h3⟩
theorem chk_ok {F : Nat → Nd} {n : Nat} (h : chkE F n = 0) : anc (snd F n) (true, true) = true := by
  unfold chkE at h
  cases ht : treeOf F n with
  | none => rw [ht] at h; exact absurd h (by decide)
  | some t =>
    rw [ht] at h
    simp only [snd, ht, Option.getD_some]
    dsimp only at h
    split at h
    · assumption
    · exact absurd h (by decide)
/-- Either of two trees whose anchors stand where they may. -/
theorem alt_ok {x y : Tre} (h1 : anc x (true, true) = true) (h2 : anc y (true, true) = true) : anc (.two 4 x y) (true, true) = true := by
  simp [anc, hdA, hdB, h1, h2]
theorem ok_two {k : Int} {x y : Tre} (hk : k = 3 ∨ k = 4) (hx : x.ok = true) (hy : y.ok = true) : (Tre.two k x y).ok = true := by
  rcases hk with rfl | rfl <;> simp [Tre.ok, hx, hy]
theorem ok_rep {x : Tre} {z : Bool} (hx : x.ok = true) : (Tre.rep x 0 (-1) z).ok = true := by
  simp [Tre.ok, hx, Tre.mayR]
theorem slice_to22 (ao : Option Addr) (n cap x : Nat) (hx : x ≤ cap) (w : World) : (Instr.slice 46 (.slice ao n cap) none (some (.int .i64 (x : Nat))) none).run Tryd.prog w = .ok (.slice ao x cap) w := by
  have hxc : (x : Int) ≤ (cap : Int) := by omega
  have hs : ∀ w, (Go.sizeOf 82).run Tryd.prog w = .ok 10 w := fun w => by kernel_rfl
  by_cases h : cap = 0
  · subst h
    obtain rfl : x = 0 := by omega
    simp [go_sem, Tryd.underlying46, hs]
  · simp [go_sem, Tryd.underlying46, hxc, h, hs]
theorem min_to (n k : Nat) (h : k = min n 60) (w : World) : (Builtin.min_ #[3, 3] 3 #[.int .i64 (n : Nat), .int .i64 60]).run Tryd.prog w = .ok (.int .i64 (k : Nat)) w := by
  rw [run_min_int2]
  subst h
  congr 2
  split <;> omega
end Go.Proofs.YthbmfnibgjlkhaaDoor
