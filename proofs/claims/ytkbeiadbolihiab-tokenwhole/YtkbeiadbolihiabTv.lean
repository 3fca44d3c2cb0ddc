/- TokenWhole: what it leans on; its short ways. -/
import Derived.Test.YtkbeiadbolihiabBg
namespace Go.Proofs.Ytkbeiadbolihiab
open Go.RowKit
set_option maxRecDepth 20000 in
set_option maxHeartbeats 1000000 in
theorem whole_long (ao : Option Addr) (n cap : Nat) (w : World) (hn : (n : Int) > 1024) : Calls Try.prog 3 #[.slice ao n cap] w (RetB w true) := by
  have HL : Hid (∀ W : World, Calls Try.prog 4 #[.slice ao n cap] W fun e w' => e = .returned (.tuple #[.slice none 0 0, .int .i64 0, .int .i64 3]) ∧ Below W.heap.size W w') := fun W => lex_long ao n cap W hn
  clear hn
  go_enter Try.func3, Try.ntmps3
  go_wp2_with fail
  refine (HL.out _).mono ?_
  rintro e w1 ⟨rfl, hb1⟩
  go_wp2_with fail
  refine (begun_any _).mono ?_
  rintro e w2 ⟨rfl, hb2⟩
  go_wp2_with fail
  refine (begun_any _).mono ?_
  rintro e w3 ⟨rfl, hb3⟩
  go_wp2_with fail
  go_ret
  exact ⟨rfl, (hb1.trans (hb2.mono hb1.size)).trans (hb3.mono (Nat.le_trans hb1.size hb2.size))⟩
set_option maxRecDepth 20000 in
set_option maxHeartbeats 1000000 in
theorem whole_bad (ao : Option Addr) (n cap : Nat) (w : World) (HL : Hid (Calls Try.prog 4 #[.slice ao n cap] w fun e w' => ∃ s : TokS, s.er ≠ 0 ∧ e = .returned (.tuple #[.slice none 0 0, .int .i64 (s.en : Nat), .int .i64 s.er]) ∧ Below w.heap.size w w')) : Calls Try.prog 3 #[.slice ao n cap] w (RetB w true) := by
  go_enter Try.func3, Try.ntmps3
  go_wp2_with fail
  refine HL.out.mono ?_
  rintro e w1 ⟨s, he, rfl, hb1⟩
  have h9 : (s.er != 0) = true := by simp [he]
  clear he
  go_wp2_with fail
  refine (begun_any _).mono ?_
  rintro e w2 ⟨rfl, hb2⟩
  go_wp2_with fail
  refine (begun_any _).mono ?_
  rintro e w3 ⟨rfl, hb3⟩
  go_wp2_with fail
  go_ret
  exact ⟨rfl, (hb1.trans (hb2.mono hb1.size)).trans (hb3.mono (Nat.le_trans hb1.size hb2.size))⟩
/-- What the loop of TokenWhole leans on. -/
structure Tk (z : Nat → Nat) (n : Nat) (ts : List TokS) : Prop where
  all : ts = wl z n 1100 0
  zero : ts.length = 0 ↔ n ≤ 0
  len : ts.length ≤ n
  wd : ∀ k (hk : k < ts.length), ts[k] = wrd z n ts[k].at_ ∧ ts[k].at_ < n ∧ ts[k].at_ < ts[k].en ∧ ts[k].en ≤ n ∧ ts[k].er = 0
  first : ∀ (hk : 0 < ts.length), ts[0].at_ = 0
  next : ∀ k (hk : k + 1 < ts.length), ts[k].en = ts[k + 1].at_
  last : ∀ k (hk : k < ts.length), k + 1 = ts.length → ts[k].en = n
theorem tk_of {z : Nat → Nat} {n : Nat} (hn : n ≤ 1024) (hg : ∀ s, s ∈ wl z n 1100 0 → s.er = 0) : Tk z n (wl z n 1100 0) := by
  have h := wl_chain 1100 0 (Nat.zero_le n) (by omega) hg
  generalize hts : wl z n 1100 0 = ts at *
  have hw : ∀ k (hk : k < ts.length), ts[k] = wrd z n ts[k].at_ ∧ ts[k].at_ < n ∧ ts[k].at_ < ts[k].en ∧ ts[k].en ≤ n ∧ ts[k].er = 0 := fun k hk => by
    have e := h.2 k hk
    have hgk := hg ts[k] (List.getElem_mem hk)
    have hl := wrd_lt e.2.1 (by rw [← e.1]; exact hgk)
    rw [← e.1] at hl
    exact ⟨e.1, e.2.1, hl.1, hl.2.1, hgk⟩
  have hpos : ∀ k (hk : k < ts.length), k ≤ ts[k].at_ := by
    intro k
    induction k with
    | zero => intro hk; exact Nat.zero_le _
    | succ k ih =>
      intro hk
      have h1 := ih (by omega)
      have h2 := (h.2 k (by omega)).2.2.2.1 hk
      have h3 := (hw k (by omega)).2.2.1
      omega
  refine ⟨hts.symm, h.1, ?_, hw, fun hk => (h.2 0 hk).2.2.1 rfl, fun k hk => (h.2 k (by omega)).2.2.2.1 hk, fun k hk hl => (h.2 k hk).2.2.2.2 hl⟩
  rcases Nat.eq_zero_or_pos ts.length with h0 | h0
  · omega
  · have h1 := hpos (ts.length - 1) (by omega)
    have h2 := (hw (ts.length - 1) (by omega)).2.1
    omega
/-- The cells of a token's row. -/
theorem row_tok {W : World} {g : Nat} {ts : List TokS} (hc : ∀ j u, (tokL ts)[j]? = some u → W.cell? ⟨g, j, none⟩ = some u) (k : Nat) (hk : k < ts.length) :
    W.cell? ⟨g, k * 11, none⟩ = some (.int .i64 ts[k].k) ∧ W.cell? ⟨g, k * 11 + 1, none⟩ = some (.int .u8 (ts[k].b : Nat)) ∧ W.cell? ⟨g, k * 11 + 2, none⟩ = some (.int .u64 (wds ts[k].P 0 : Nat)) ∧ W.cell? ⟨g, k * 11 + 3, none⟩ = some (.int .u64 (wds ts[k].P 1 : Nat)) ∧ W.cell? ⟨g, k * 11 + 4, none⟩ = some (.int .u64 (wds ts[k].P 2 : Nat)) ∧ W.cell? ⟨g, k * 11 + 5, none⟩ = some (.int .u64 (wds ts[k].P 3 : Nat)) ∧
    W.cell? ⟨g, k * 11 + 6, none⟩ = some (.bool ts[k].nt) ∧ W.cell? ⟨g, k * 11 + 7, none⟩ = some (.int .i64 ts[k].l) ∧ W.cell? ⟨g, k * 11 + 8, none⟩ = some (.int .i64 ts[k].m) ∧ W.cell? ⟨g, k * 11 + 9, none⟩ = some (.bool ts[k].lz) ∧ W.cell? ⟨g, k * 11 + 10, none⟩ = some (.int .i64 (ts[k].at_ : Nat)) := by
  have h := fun j (hj : j < 11) u (hu : (tokC ts[k])[j]? = some u) => hc (k * 11 + j) u (by rw [tokL_get _ k j hk hj]; exact hu)
  exact ⟨h 0 (by decide) _ rfl, h 1 (by decide) _ rfl, h 2 (by decide) _ rfl, h 3 (by decide) _ rfl, h 4 (by decide) _ rfl, h 5 (by decide) _ rfl, h 6 (by decide) _ rfl, h 7 (by decide) _ rfl, h 8 (by decide) _ rfl, h 9 (by decide) _ rfl, h 10 (by decide) _ rfl⟩
/-- The bytes from a place on. -/
theorem Rd.part {w : World} {bb off n : Nat} {z : Nat → Nat} (h : Rd w (some ⟨bb, off, none⟩) n z) (a m : Nat) (hm : a + m ≤ n) : Rd w (some ⟨bb, off + a, none⟩) m (fun i => z (a + i)) := by
  refine ⟨fun i hi => h.small _ (by omega), fun h0 => ?_⟩
  obtain ⟨b', off', e, hlt, hc⟩ := h.at_ (by omega)
  cases e
  exact ⟨bb, off + a, rfl, hlt, fun i hi => by rw [Nat.add_assoc]; exact hc (a + i) (by omega)⟩
end Go.Proofs.Ytkbeiadbolihiab
