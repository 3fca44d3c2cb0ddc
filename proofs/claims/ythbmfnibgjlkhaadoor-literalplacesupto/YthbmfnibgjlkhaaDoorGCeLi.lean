/- Check: the walk. one, live: the walks. -/
import Derived.Test.YthbmfnibgjlkhaaDoorGAoAp
import Derived.Test.YthbmfnibgjlkhaaDoorGWwMw
import Derived.Test.YthbmfnibgjlkhaaDoorMe
namespace Go.Proofs.YthbmfnibgjlkhaaDoor
open Go.RowKit
/-- What Check answers. -/
def chkE (F : Nat → Nd) (n : Nat) : Int := match treeOf F n with
  | none => 50
  | some t => if anc t (true, true) = true then 0 else 51
set_option maxRecDepth 10000 in
set_option maxHeartbeats 1000000 in
theorem check_any (a : Option Addr) (n c : Nat) (F : Nat → Nd) (w : World) (ha : RdN w a n F) (hn : (n : Int) ≤ 9223372036854775807) : Calls Tryd.prog 76 #[.agg #[.slice a n c]] w (RetI w (chkE F n)) := by
  have hW0 := below1 w (.cells #[.slice a n c] 48)
  have k0 := Cl.new w 48 [.slice a n c]
  have HS := starts_any a n c F _ (ha.below hW0) hn
  unfold RetSts at HS
  cases ht : treeOf F n with
  | none =>
    have e : chkE F n = 50 := by simp [chkE, ht]
    rw [e]
    rw [ht] at HS
    clear ha ht e
    go_enter Tryd.func76, Tryd.ntmps76
    go_wp2_with (go_at_call 93; refine HS.mono ?_; rintro e w1 ⟨⟨v, rfl, _⟩, hb⟩)
    go_ret
    exact ⟨rfl, hW0.trans (hb.mono (by simp))⟩
  | some t =>
    obtain ⟨e1, e2, e3, e4⟩ := treeOf_some ht
    have hp := t.size_pos
    obtain ⟨bb, off, rfl, hbb, _⟩ := ha (by omega)
    subst e1
    have hr' : RdN w (some ⟨bb, off, none⟩) t.size (nodes t) := ha.congr e4
    have HA : Hid (∀ W, Below w.heap.size w W → Calls Tryd.prog 94 #[.slice (some ⟨bb, off, none⟩) t.size c] W (RetBo W (anc t (true, true)))) := fun W hW => anchors_any W bb off c t e2 e3 (hr'.below hW)
    rw [ht] at HS
    have e : chkE F t.size = if anc t (true, true) = true then 0 else 51 := by simp [chkE, ht]
    rw [e]
    clear ha ht e hr' e2 e3 e4
    cases hq : anc t (true, true) with
    | true =>
      rw [hq] at HA
      rw [if_pos rfl]
      generalize t.size = m at *
      go_enter Tryd.func76, Tryd.ntmps76
      go_wp2_with (first | (go_at_call 93; refine HS.mono ?_; rintro e w1 ⟨⟨v, rfl, _⟩, hb⟩; have d1 := (k0.below hb).cell 0 rfl) | (go_at_call 94; refine (HA.out _ (hW0.trans (hb.mono (by simp)))).mono ?_; rintro e w2 ⟨rfl, hb2⟩))
      go_ret
      exact ⟨rfl, (hW0.trans (hb.mono (by simp))).trans (hb2.mono (Nat.le_trans (by simp) hb.size))⟩
    | false =>
      rw [hq] at HA
      rw [if_neg (by simp)]
      generalize t.size = m at *
      go_enter Tryd.func76, Tryd.ntmps76
      go_wp2_with (first | (go_at_call 93; refine HS.mono ?_; rintro e w1 ⟨⟨v, rfl, _⟩, hb⟩; have d1 := (k0.below hb).cell 0 rfl) | (go_at_call 94; refine (HA.out _ (hW0.trans (hb.mono (by simp)))).mono ?_; rintro e w2 ⟨rfl, hb2⟩))
      go_ret
      exact ⟨rfl, (hW0.trans (hb.mono (by simp))).trans (hb2.mono (Nat.le_trans (by simp) hb.size))⟩
end Go.Proofs.YthbmfnibgjlkhaaDoor
namespace Go.Proofs.YthbmfnibgjlkhaaDoor
open Go.RowKit
def byteN (x : Int) : Nd := ⟨2, 0, x, 0, 0, 0, 0, 0, 0, false⟩
theorem leafN_byte (x : Int) : leafN (byteN x) = byteN x := by simp [leafN, byteN]
theorem byte_ok (x : Int) : (Tre.leaf (byteN x)).ok = true := by simp [Tre.ok, Tre.lf, byteN, Nd.eq]
theorem snd_byte (x : Int) : snd (fun _ => byteN x) 1 = .leaf (byteN x) := by
  have := treeOf_nodes (.leaf (byteN x)) (n := 1) (fun _ => byteN x) rfl (byte_ok x) (by simp [Tre.size]) (fun p hp => by
    have : p = 0 := by omega
    subst this; rfl)
  simp [snd, this]
theorem snd_nodes (t : Tre) (ho : t.ok = true) (hs : t.size ≤ 2048) : snd (nodes t) t.size = t := by
  have := treeOf_nodes t (n := t.size) (nodes t) rfl ho hs (fun p _ => rfl)
  simp [snd, this]
/-- ab|c. -/
def abT : Tre := .two 3 (.leaf (byteN 8589934592)) (.leaf (byteN 17179869184))
def abcT : Tre := .two 4 abT (.leaf (byteN 34359738368))
theorem ab_ok : abT.ok = true := by simp [abT, Tre.ok, Tre.lf, byteN, Nd.eq]
theorem abc_ok : abcT.ok = true := by simp [abcT, abT, Tre.ok, Tre.lf, byteN, Nd.eq]
theorem abc_wl : wl abcT = 1 := by simp [abcT, abT, wl, byteN, pl]; decide
theorem abc_wg : wg abcT = 2 := by simp [abcT, abT, wg, byteN, pl, gr]; decide
theorem abc_wt : wt abcT = 3 := by simp [abcT, abT, wt, byteN, pl]; decide
theorem abc_chk : chkE (nodes abcT) 5 = 0 := by
  have := treeOf_nodes abcT (n := 5) (nodes abcT) rfl abc_ok (by decide) (fun p _ => rfl)
  rw [chkE, this]
  simp [abcT, abT, anc, byteN]
end Go.Proofs.YthbmfnibgjlkhaaDoor
