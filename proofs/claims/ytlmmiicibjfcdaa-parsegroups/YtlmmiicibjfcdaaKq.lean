/- token: units as a whole. -/
import Derived.Test.YtlmmiicibjfcdaaKo
import Derived.Test.YtlmmiicibjfcdaaKp
namespace Go.Proofs.Ytlmmiicibjfcdaa
open Go.RowKit
/-- A good token of unit: a byte's, or a class's. -/
def TokS.Unit (s : TokS) (at_ n : Nat) : Prop := at_ < s.en ∧ s.en ≤ n ∧ ((∃ b, b < 256 ∧ s = .sgn 1 b at_ s.en) ∨ ∃ P, s = .cls P false at_ s.en)
theorem hexV_lt (z : Nat → Nat) (n at_ : Nat) : (hexV z n at_).1 < 256 := by
  unfold hexV
  split
  · have h1 := hexP_lt (z at_)
    have h2 := hexP_lt (z (at_ + 1))
    exact Nat.or_lt_two_pow (n := 8) (by omega) (by omega)
  · show 0 < 256; omega
theorem hexV_le (z : Nat → Nat) (n at_ : Nat) (h : (hexV z n at_).2 = true) : at_ + 2 ≤ n := by
  unfold hexV at h
  split at h
  · assumption
  · simp at h
theorem escS_unit (z : Nat → Nat) (n at_ : Nat) (hz : ∀ i, i < n → z i < 256) (h : (escS z n at_).er = 0) : (escS z n at_).Unit at_ n := by
  unfold escS at h ⊢
  split
  · rename_i h1; rw [if_pos h1] at h; exact absurd h (by simp [TokS.bad])
  rename_i h1
  rw [if_neg h1] at h
  split
  · exact ⟨by show at_ < at_ + 2; omega, by show at_ + 2 ≤ n; omega, .inr ⟨_, rfl⟩⟩
  rename_i h2
  rw [if_neg h2] at h
  split
  · exact ⟨by show at_ < at_ + 2; omega, by show at_ + 2 ≤ n; omega, .inl ⟨10, by omega, rfl⟩⟩
  rename_i h3
  rw [if_neg h3] at h
  split
  · exact ⟨by show at_ < at_ + 2; omega, by show at_ + 2 ≤ n; omega, .inl ⟨13, by omega, rfl⟩⟩
  rename_i h4
  rw [if_neg h4] at h
  split
  · exact ⟨by show at_ < at_ + 2; omega, by show at_ + 2 ≤ n; omega, .inl ⟨9, by omega, rfl⟩⟩
  rename_i h5
  rw [if_neg h5] at h
  split
  · rename_i h6
    rw [if_pos h6] at h
    split
    · rename_i h7
      have := hexV_le z n (at_ + 2) h7
      exact ⟨by show at_ < at_ + 4; omega, by show at_ + 4 ≤ n; omega, .inl ⟨_, hexV_lt z n (at_ + 2), rfl⟩⟩
    · rename_i h7; rw [if_neg h7] at h; exact absurd h (by simp [TokS.bad])
  rename_i h6
  rw [if_neg h6] at h
  split
  · rename_i h7; rw [if_pos h7] at h; exact absurd h (by simp [TokS.bad])
  rename_i h7
  rw [if_neg h7] at h
  split
  · rename_i h8; rw [if_pos h8] at h; exact absurd h (by simp [TokS.bad])
  · exact ⟨by show at_ < at_ + 2; omega, by show at_ + 2 ≤ n; omega, .inl ⟨_, hz _ (by omega), rfl⟩⟩
theorem uniS_unit (z : Nat → Nat) (n at_ : Nat) (hz : ∀ i, i < n → z i < 256) (ha : at_ < n) (h : (uniS z n at_).er = 0) : (uniS z n at_).Unit at_ n := by
  unfold uniS at h ⊢
  split
  · rename_i h1; rw [if_pos h1] at h; exact escS_unit z n at_ hz h
  · exact ⟨by show at_ < at_ + 1; omega, by show at_ + 1 ≤ n; omega, .inl ⟨_, hz _ ha, rfl⟩⟩
/-- The bytes of one unit. -/
def oneS (s : TokS) : Nat → Bool := if s.k = 1 then ofN (fun _ => s.b) 1 else s.P
/-- What units says: the class, the place behind, the error. -/
def untS (z : Nat → Nat) (n at_ : Nat) : (Nat → Bool) × Nat × Int :=
  if (uniS z n at_).er ≠ 0 then (fun _ => false, (uniS z n at_).en, (uniS z n at_).er)
  else if dashP z n (uniS z n at_).en = false then (oneS (uniS z n at_), (uniS z n at_).en, 0)
  else if (uniS z n ((uniS z n at_).en + 1)).er ≠ 0 then (fun _ => false, (uniS z n ((uniS z n at_).en + 1)).en, (uniS z n ((uniS z n at_).en + 1)).er)
  else if (uniS z n at_).k ≠ 1 ∨ (uniS z n ((uniS z n at_).en + 1)).k ≠ 1 ∨ (uniS z n ((uniS z n at_).en + 1)).b < (uniS z n at_).b then (fun _ => false, at_, 42)
  else (rg (uniS z n at_).b ((uniS z n ((uniS z n at_).en + 1)).b + 1 - (uniS z n at_).b), (uniS z n ((uniS z n at_).en + 1)).en, 0)
theorem one_calls (s : TokS) (at_ n : Nat) (h : s.Unit at_ n) : Hid (∀ k b a0 a1 a2 a3 nt l m lz at' en er, s.is k b a0 a1 a2 a3 nt l m lz at' en er → ∀ W, Calls Try.prog 120 #[tokV k b a0 a1 a2 a3 nt l m lz at'] W (RetC W (oneS s))) := by
  intro k b a0 a1 a2 a3 nt l m lz at' en er hs W
  obtain ⟨h1, h2, h4, h5, h6, h7, h8, h9, -, -⟩ := hs
  obtain ⟨-, -, ⟨x, hx, e⟩ | ⟨P, e⟩⟩ := h
  · rw [e] at h1 h2 h4 h5 h6 h7 h8 h9
    obtain ⟨rfl, rfl, rfl, rfl⟩ := h4.uniq c4_none
    have e2 : oneS s = ofN (fun _ => x) 1 := by rw [e]; rfl
    rw [e2, h1, h2, h5, h6, h7, h8, h9]
    exact bytesOf_byte x hx at_ W
  · have e2 : oneS s = P := by rw [e]; rfl
    rw [e2]
    rw [e] at h1 h2 h4 h5 h6 h7 h8 h9
    rw [h1, h2]
    exact bytesOf_class h4 _ _ _ _ _ W
theorem units_any (ao : Option Addr) (n cap at_ : Nat) (z : Nat → Nat) (w : World) (hr : Rd w ao n z) (hn : (n : Int) ≤ 1024) (ha : at_ < n) : Calls Try.prog 100 #[.slice ao n cap, .int .i64 (at_ : Nat)] w (RetU w (untS z n at_).1 (untS z n at_).2.1 (untS z n at_).2.2) := by
  have HU : Hid (∀ W, Below w.heap.size w W → Calls Try.prog 118 #[.slice ao n cap, .int .i64 (at_ : Nat)] W (RetT W (uniS z n at_))) := fun W hb => unit_any ao n cap at_ z W (hr.below hb) hn ha
  have hs := uniS_unit z n at_ hr.small ha
  unfold untS
  split
  · rename_i h; exact un_bad ao n cap at_ z w hr hn ha h
  rename_i h
  have he : (uniS z n at_).er = 0 := Decidable.not_not.1 h
  have hS := hs he
  have hen := hS.2.1
  have hD : ∀ v, dashP z n (uniS z n at_).en = v → Hid (∀ W, Below w.heap.size w W → Calls Try.prog 119 #[.slice ao n cap, .int .i64 ((uniS z n at_).en : Nat)] W fun e w' => e = .returned (.bool v) ∧ w' = W) := fun v hv W hb => by
    have := isDash_any ao n cap (uniS z n at_).en z W (hr.below hb) hn (by omega)
    rw [hv] at this; exact this
  split
  · rename_i hd; exact un_one ao n cap at_ w _ _ he HU (hD false hd) (one_calls _ at_ n hS)
  rename_i hd
  have hd' : dashP z n (uniS z n at_).en = true := by simpa using hd
  have hlt : (uniS z n at_).en + 1 < n := by unfold dashP at hd'; simp at hd'; omega
  have HV : Hid (∀ W, Below w.heap.size w W → Calls Try.prog 118 #[.slice ao n cap, .int .i64 (((uniS z n at_).en : Int) + 1)] W (RetT W (uniS z n ((uniS z n at_).en + 1)))) := fun W hb => unit_any ao n cap ((uniS z n at_).en + 1) z W (hr.below hb) hn hlt
  have ht := uniS_unit z n ((uniS z n at_).en + 1) hr.small hlt
  split
  · rename_i h2; exact un_bad2 ao n cap at_ w _ he HU (hD true hd') _ HV (by omega) h2
  rename_i h2
  have he2 : (uniS z n ((uniS z n at_).en + 1)).er = 0 := Decidable.not_not.1 h2
  have hT := ht he2
  split
  · rename_i hw
    by_cases k1 : (uniS z n at_).k = 1
    · by_cases k2 : (uniS z n ((uniS z n at_).en + 1)).k = 1
      · exact un_wrong3 ao n cap at_ w _ he HU (hD true hd') _ HV (by omega) he2 k1 k2 (by omega)
      · exact un_wrong2 ao n cap at_ w _ he HU (hD true hd') _ HV (by omega) he2 k1 k2
    · exact un_wrong1 ao n cap at_ w _ he HU (hD true hd') _ HV (by omega) he2 k1
  · rename_i hw
    have k1 : (uniS z n at_).k = 1 := by omega
    have k2 : (uniS z n ((uniS z n at_).en + 1)).k = 1 := by omega
    have hb : (uniS z n ((uniS z n at_).en + 1)).b < 256 := by
      obtain ⟨-, -, ⟨x, hx, e⟩ | ⟨P, e⟩⟩ := hT
      · rw [e]; exact hx
      · rw [e] at k2; exact absurd k2 (by simp [TokS.cls])
    exact un_rng ao n cap at_ w _ he HU (hD true hd') _ HV (by omega) he2 k1 k2 (by omega) hb
end Go.Proofs.Ytlmmiicibjfcdaa
