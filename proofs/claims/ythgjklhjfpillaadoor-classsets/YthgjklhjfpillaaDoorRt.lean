/- runText; First: the walks. -/
import Derived.Test.YthgjklhjfpillaaDoorTz
namespace Go.Proofs.YthgjklhjfpillaaDoor
open Go.RowKit
theorem innB_len (b : Nat) : (innB b).length ≤ 4 := by
  unfold innB numB
  split <;> simp
theorem size_str (l : List UInt8) : (⟨l.toArray⟩ : ByteArray).size = l.length := by simp [ByteArray.size]
theorem size_dash (p : ByteArray) : (p ++ (⟨#[45]⟩ : ByteArray)).size = p.size + 1 := by simp [ByteArray.size_append]; rfl
set_option maxRecDepth 10000 in
set_option maxHeartbeats 1000000 in
theorem runText_any (lo hi : Nat) (w : World) (hle : lo ≤ hi) (hh : hi < 256) : Calls Tryd.prog 62 #[.int .u8 (lo : Nat), .int .u8 (hi : Nat)] w (RetS w (runB lo hi)) := by
  have hl : lo < 256 := by omega
  by_cases h0 : hi = lo
  · subst h0
    have e : runB hi hi = innB hi := by unfold runB; rw [if_pos rfl]
    rw [e]
    go_enter Tryd.func62, Tryd.ntmps62
    go_wp2_with (go_at_call 44; refine (inner_any hi _ hl).mono ?_; rintro e w' ⟨rfl, hB⟩)
    go_ret
    exact ⟨rfl, hB⟩
  · by_cases h1 : hi = lo + 1
    · have e : runB lo hi = innB lo ++ innB hi := by unfold runB; rw [if_neg h0, if_pos h1]
      rw [e]
      have d0 : ((hi : Int) - lo == 0) = false := by simp; omega
      have d1 : ((hi : Int) - lo == 1) = true := by simp; omega
      unfold RetS
      rw [← str_app]
      generalize hp : (⟨(innB lo).toArray⟩ : ByteArray) = p
      generalize hq : (⟨(innB hi).toArray⟩ : ByteArray) = q
      have i1 : ∀ w, Calls Tryd.prog 44 #[.int .u8 (lo : Nat)] w fun e w' => e = .returned (.string p) ∧ Below w.heap.size w w' := fun w => by rw [← hp]; exact inner_any lo w hl
      have i2 : ∀ w, Calls Tryd.prog 44 #[.int .u8 (hi : Nat)] w fun e w' => e = .returned (.string q) ∧ Below w.heap.size w w' := fun w => by rw [← hq]; exact inner_any hi w hh
      have hp4 : p.size ≤ 4 := by rw [← hp, size_str]; exact innB_len lo
      have hq4 : q.size ≤ 4 := by rw [← hq, size_str]; exact innB_len hi
      have hd := size_dash p
      clear hp hq e h0 h1
      go_enter Tryd.func62, Tryd.ntmps62
      go_wp2_with fail
      refine (i1 _).mono ?_
      rintro e w1 ⟨rfl, hB1⟩
      go_wp2_with fail
      refine (i2 _).mono ?_
      rintro e w2 ⟨rfl, hB2⟩
      go_wp2
      go_ret
      exact ⟨rfl, hB1.trans (hB2.mono hB1.size)⟩
    · have e : runB lo hi = innB lo ++ [45] ++ innB hi := by unfold runB; rw [if_neg h0, if_neg h1]
      rw [e]
      have d0 : ((hi : Int) - lo == 0) = false := by simp; omega
      have d1 : ((hi : Int) - lo == 1) = false := by simp; omega
      unfold RetS
      rw [← str_app, ← str_app]
      generalize hp : (⟨(innB lo).toArray⟩ : ByteArray) = p
      generalize hq : (⟨(innB hi).toArray⟩ : ByteArray) = q
      have i1 : ∀ w, Calls Tryd.prog 44 #[.int .u8 (lo : Nat)] w fun e w' => e = .returned (.string p) ∧ Below w.heap.size w w' := fun w => by rw [← hp]; exact inner_any lo w hl
      have i2 : ∀ w, Calls Tryd.prog 44 #[.int .u8 (hi : Nat)] w fun e w' => e = .returned (.string q) ∧ Below w.heap.size w w' := fun w => by rw [← hq]; exact inner_any hi w hh
      have hp4 : p.size ≤ 4 := by rw [← hp, size_str]; exact innB_len lo
      have hq4 : q.size ≤ 4 := by rw [← hq, size_str]; exact innB_len hi
      have hd := size_dash p
      clear hp hq e h0 h1
      go_enter Tryd.func62, Tryd.ntmps62
      go_wp2_with fail
      refine (i1 _).mono ?_
      rintro e w1 ⟨rfl, hB1⟩
      go_wp2_with fail
      refine (i2 _).mono ?_
      rintro e w2 ⟨rfl, hB2⟩
      go_wp2
      go_ret
      exact ⟨rfl, hB1.trans (hB2.mono hB1.size)⟩
end Go.Proofs.YthgjklhjfpillaaDoor
