/- Unseal: the walk. -/
import Derived.Test.YtnjnaihogbnmaaaNu
import Derived.Deep.RegionHeld3
namespace Go.Proofs.Ytnjnaihogbnmaaa
open Go.RowKit
theorem Rd.cut {w : World} {b off n : Nat} {f : Nat → Nat} (h : Rd w (some ⟨b, off, none⟩) n f) (k : Nat) (hk : k ≤ n) : Rd w (some ⟨b, off, none⟩) k f := by
  refine ⟨fun i hi => h.small i (by omega), fun hl => ?_⟩
  obtain ⟨b', off', e, hlt, hc⟩ := h.at_ (by omega)
  exact ⟨b', off', e, hlt, fun i hi => hc i (by omega)⟩
theorem Rd.from {w : World} {b off n : Nat} {f : Nat → Nat} (h : Rd w (some ⟨b, off, none⟩) n f) (k m : Nat) (hk : k + m = n) : Rd w (some ⟨b, off + k, none⟩) m (fun i => f (k + i)) := by
  refine ⟨fun i hi => h.small _ (by omega), fun hl => ?_⟩
  obtain ⟨b', off', e, hlt, hc⟩ := h.at_ (by omega)
  simp only [Option.some.injEq, Addr.mk.injEq, and_true] at e
  obtain ⟨rfl, rfl⟩ := e
  exact ⟨b, off + k, rfl, hlt, fun i hi => by rw [Nat.add_assoc]; exact hc _ (by omega)⟩
theorem slice_from (b off m cap : Nat) (hc : m + 8 ≤ cap) (w : World) : (Instr.slice 22 (.slice (some ⟨b, off, none⟩) (m + 8) cap) (some (.int .i64 (m : Nat))) none none).run Try.prog w = .ok (.slice (some ⟨b, off + m, none⟩) 8 (cap - m)) w := by
  have hcm : ¬ cap = m := by omega
  have hm8 : (m : Int) ≤ (m : Int) + 8 := by omega
  simp [go_sem, Try.underlying22, hcm, hm8]
def RetU (w : World) (n : Nat) (f : Nat → Nat) (e : Ending) (w' : World) : Prop :=
  ∃ ao cap, e = .returned (.tuple #[.slice ao n cap, .int .i64 0]) ∧ Own w.heap.size w' ao n cap f ∧ Below w.heap.size w w'
set_option maxHeartbeats 2000000 in
theorem unseal_ok (b off m cap : Nat) (f : Nat → Nat) (w : World) (hr : Rd w (some ⟨b, off, none⟩) (m + 8) f) (hm : m ≤ 140737488355328) (hc : m + 8 ≤ cap) (he : numB (fun i => f (m + i)) 8 = sumB f m) :
    Calls Try.prog 10 #[.slice (some ⟨b, off, none⟩) ((m + 8 : Nat)) cap] w (RetU w m f) := by
  have h1 := hr.from m 8 rfl
  have h2 := hr.cut m (by omega)
  generalize hSS : sumB f m = S at *
  have t : Below w.heap.size w w.drew := (Below.refl _ _).drew
  have hmc : (m : Int) ≤ (cap : Int) := by omega
  have hsl := slice_from b off m cap hc
  go_enter Try.func10, Try.ntmps10
  go_wp2_with fail
  go_region_held3 (fun _ => True) (trivial)
    (first
      | (go_at_call 38; refine (number_any _ 8 _ _ _ (h1.below t) (by decide)).mono ?_; rintro e w' ⟨rfl, rfl⟩)
      | (go_at_call 19; refine (sum_any _ m _ _ _ (h2.below t) (by omega)).mono ?_; rintro e w' ⟨rfl, rfl⟩))
  go_wp2_with (go_at_call 35; refine (clone_some ⟨b, off, none⟩ m _ f _ (h2.below t) hm).mono ?_; rintro e w' ⟨ao', cap', rfl, hown, hb⟩)
  refine bodyPost_ret (v := .tuple #[.slice ao' m cap', .int .i64 0]) (by simp [results, Try.results10, go_sem]) rfl ⟨_, _, rfl, ?_, ?_⟩
  · exact hown.mono (by simp)
  · exact t.trans (hb.mono (by simp))
set_option maxHeartbeats 2000000 in
theorem unseal_sum (b off m cap : Nat) (f : Nat → Nat) (w : World) (hr : Rd w (some ⟨b, off, none⟩) (m + 8) f) (hm : m ≤ 140737488355328) (hc : m + 8 ≤ cap) (he : numB (fun i => f (m + i)) 8 ≠ sumB f m) :
    Calls Try.prog 10 #[.slice (some ⟨b, off, none⟩) ((m + 8 : Nat)) cap] w fun e w' => e = .returned (.tuple #[.slice none 0 0, .int .i64 33]) ∧ Below w.heap.size w w' := by
  have h1 := hr.from m 8 rfl
  have h2 := hr.cut m (by omega)
  have hne : ((numB (fun i => f (m + i)) 8 : Nat) : Int) ≠ ((sumB f m : Nat) : Int) := by omega
  have hnb : (((numB (fun i => f (m + i)) 8 : Nat) : Int) != ((sumB f m : Nat) : Int)) = true := by rw [bne_iff_ne]; exact hne
  clear he hne
  generalize hSS : sumB f m = S at *
  generalize hNN : numB (fun i => f (m + i)) 8 = N at *
  have t : Below w.heap.size w w.drew := (Below.refl _ _).drew
  have hmc : (m : Int) ≤ (cap : Int) := by omega
  have hsl := slice_from b off m cap hc
  go_enter Try.func10, Try.ntmps10
  go_wp2_with fail
  go_region_held3 (fun _ => True) (trivial)
    (first
      | (go_at_call 38; refine (number_any _ 8 _ _ _ (h1.below t) (by decide)).mono ?_; rintro e w' ⟨rfl, rfl⟩)
      | (go_at_call 19; refine (sum_any _ m _ _ _ (h2.below t) (by omega)).mono ?_; rintro e w' ⟨rfl, rfl⟩))
  go_wp2
  exact bodyPost_ret (v := .tuple #[.slice none 0 0, .int .i64 33]) (by simp [results, Try.results10, go_sem]) rfl ⟨rfl, t⟩
end Go.Proofs.Ytnjnaihogbnmaaa
