/- Parts, joined: what they make. -/
import Derived.Test.YtgedhjflminlbaaJx
import Derived.Test.YtgedhjflminlbaaSu
import Derived.Test.YtgedhjflminlbaaIx
import Derived.Deep.DeepCutAuto
namespace Go.Proofs.Ytgedhjflminlbaa
open Go.RowKit Go.Shelf
set_option maxHeartbeats 400000 in
theorem joined_mk (ao : Option Addr) (n cap : Nat) (c : Int) (w : World) : Calls Try.prog 63 #[.slice ao n cap, .int .i64 c] w fun e w' => e = .returned (.func (.func 65) #[] #[.pointer (some ⟨w.heap.size, 0, none⟩), .pointer (some ⟨w.heap.size + 1, 0, none⟩)]) ∧ w' = (w.alloc (.cells #[.slice ao n cap] 22)).alloc (.cells #[.int .i64 c] 3) := by
  have hmf := mk_func
  go_enter Try.func63, Try.ntmps63
  go_wp2
  go_ret
  exact ⟨rfl, rfl⟩
/-- What Parts answers. -/
def RetPa (w : World) (x : Tre) (c : Int) (e : Ending) (w' : World) : Prop := ∃ (b2 b3 b5 bf : Nat) (ac : Addr) (ca : Nat), e = .returned (.func (.func 62) #[] #[.pointer (some ⟨b2, 0, none⟩), .pointer (some ⟨b3, 0, none⟩), .pointer (some ⟨b5, 0, none⟩)]) ∧ Cl w' b2 24 [.slice (some ac) x.size ca] ∧ RdN w' (some ac) x.size (nodes x) ∧ x.size ≤ ca ∧ Cl w' b3 3 [.int .i64 c] ∧ Cl w' b5 50 [.slice (some ⟨bf, 0, none⟩) x.size x.size] ∧ Cl w' bf 3 (ints (stF x) x.size) ∧ (w.heap.size ≤ b2 ∧ w.heap.size ≤ b3 ∧ w.heap.size ≤ b5) ∧ Below w.heap.size w w'
set_option maxRecDepth 10000 in
set_option maxHeartbeats 2000000 in
theorem tparts_any (a : Option Addr) (n c : Nat) (F : Nat → Nd) (k : Int) (w : World) (ha : RdN w a n F) (hn : (n : Int) ≤ 9223372036854775807) (hca : n ≤ c) : Calls Try.prog 50 #[.agg #[.slice a n c], .int .i64 k] w (RetPa w (snd F n) k) := by
  obtain ⟨ox, sx⟩ := snd_ok F n
  have px := (snd F n).size_pos
  have hW0 := below2 w (.cells #[.slice a n c] 24) (.cells #[.int .i64 k] 3)
  have HA := sound_any a n c F _ (ha.below hW0) hn hca
  have ka : Cl ((w.alloc (.cells #[.slice a n c] 24)).alloc (.cells #[.int .i64 k] 3)) w.heap.size 24 [.slice a n c] := (Cl.new w 24 [.slice a n c]).alloc _
  have kk : Cl ((w.alloc (.cells #[.slice a n c] 24)).alloc (.cells #[.int .i64 k] 3)) (w.heap.size + 1) 3 [.int .i64 k] := by
    have := Cl.new (w.alloc (.cells #[.slice a n c] 24)) 3 [.int .i64 k]
    simpa only [World.size_alloc] using this
  have d0 := ka.cell 0 rfl
  have HC : Hid (∀ W (ad : Addr) cap, RdN W (some ad) (snd F n).size (nodes (snd F n)) → Calls Try.prog 19 #[.agg #[.slice (some ad) (snd F n).size cap]] W (RetT W (snd F n).size (nodes (snd F n)))) := fun W ad cap h => tclone_any (some ad) _ cap _ W h (by omega) (.inr ⟨ad, rfl⟩)
  have hmf := mk_func
  clear ha
  generalize snd F n = x at *
  go_enter Try.func50, Try.ntmps50
  go_upto_region 2 with (go_at_call 36; refine HA.mono ?_; rintro e w1 ⟨a1, cap1, b1, rfl, hr1, ⟨hb1, hcap1⟩, hc1, hB1⟩; have hsz1 := hB1.size; simp only [World.size_alloc] at hsz1 hb1; have kx := (ka.below hB1).alloc (.cells #[.slice none 0 0] 50); obtain ⟨d1, d2⟩ := kx.one; have ky := (Cl.new w1 50 [.slice none 0 0]).other (k := w.heap.size) (by omega) 0 (.slice (some a1) x.size cap1); obtain ⟨d3, d4⟩ := ky.one)
  have hbb1 := hc1.lt
  have k1 := (kx.set 0 (.slice (some a1) x.size cap1)).other (k := w1.heap.size) (by omega) 0 (.slice (some ⟨b1, 0, none⟩) x.size x.size)
  have k2 := (((kk.below hB1).alloc (.cells #[.slice none 0 0] 50)).other (k := w.heap.size) (by omega) 0 (.slice (some a1) x.size cap1)).other (k := w1.heap.size) (by omega) 0 (.slice (some ⟨b1, 0, none⟩) x.size x.size)
  have k3 := ky.set 0 (.slice (some ⟨b1, 0, none⟩) x.size x.size)
  have kF := ((hc1.alloc (.cells #[.slice none 0 0] 50)).other (k := w.heap.size) (by omega) 0 (.slice (some a1) x.size cap1)).other (k := w1.heap.size) (by omega) 0 (.slice (some ⟨b1, 0, none⟩) x.size x.size)
  have hrd := ((hr1.below (below1 w1 (.cells #[.slice none 0 0] 50))).put kx (.slice (some a1) x.size cap1)).put ky (.slice (some ⟨b1, 0, none⟩) x.size x.size)
  have hBV : Below w.heap.size w (((w1.alloc (.cells #[.slice none 0 0] 50)).setCell ⟨w.heap.size, 0, none⟩ (.slice (some a1) x.size cap1)).setCell ⟨w1.heap.size, 0, none⟩ (.slice (some ⟨b1, 0, none⟩) x.size x.size)) := (((hW0.trans (hB1.mono (by simp; omega))).alloc (by omega) _).setCell (p := ⟨w.heap.size, 0, none⟩) (Nat.le_refl _) _).setCell (p := ⟨w1.heap.size, 0, none⟩) (by simp; omega) _
  have hszV : (((w1.alloc (.cells #[.slice none 0 0] 50)).setCell ⟨w.heap.size, 0, none⟩ (.slice (some a1) x.size cap1)).setCell ⟨w1.heap.size, 0, none⟩ (.slice (some ⟨b1, 0, none⟩) x.size x.size)).heap.size = w1.heap.size + 1 := by simp
  simp only [List.set_cons_zero] at k1 k3
  clear d1 d2 d3 d4 kx ky hc1 hr1 hB1 ka kk hW0 HA d0
  generalize ((w1.alloc (.cells #[.slice none 0 0] 50)).setCell ⟨w.heap.size, 0, none⟩ (.slice (some a1) x.size cap1)).setCell ⟨w1.heap.size, 0, none⟩ (.slice (some ⟨b1, 0, none⟩) x.size x.size) = V at *
  generalize w1.heap.size = N1 at *
  have e0 := k1.cell 0 rfl
  have hC := HC.out V a1 cap1 hrd
  go_wp2_with (go_at_call 19; refine hC.mono ?_; rintro e w2 ⟨a2, c2, rfl, o2, b2⟩; have j1 := k1.below b2; obtain ⟨d1, d2⟩ := j1.one; obtain ⟨g, rfl, hgl, hgB, _⟩ := o2.cells px)
  go_ret
  have cc2 := ownsRow_cap o2
  have j1' := j1.set 0 (.slice (some ⟨g, 0, none⟩) x.size c2)
  simp only [List.set_cons_zero] at j1'
  exact ⟨w.heap.size, w.heap.size + 1, N1, b1, ⟨g, 0, none⟩, c2, rfl, j1', o2.rd.put j1 _, cc2, (k2.below b2).other (by omega) _ _, (k3.below b2).other (by omega) _ _, (kF.below b2).other (by omega) _ _, ⟨Nat.le_refl _, by omega, by omega⟩, (hBV.trans (b2.mono hBV.size)).setCell (p := ⟨w.heap.size, 0, none⟩) (Nat.le_refl _) _⟩
end Go.Proofs.Ytgedhjflminlbaa
