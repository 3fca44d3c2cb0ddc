/- Tokens that came in, and the listed tables, as the card ties them. Lists of tokens that came in; what the bound on their bulk gives. -/
import Derived.Test.YtkbeiadbolihiaaDoorRows
import Derived.Test.YtkbeiadbolihiaaDoorM19Ck
import Derived.Test.YtkbeiadbolihiaaDoorM03It
import Derived.ProofKit
import Derived.OpenShut
import Derived.Lib.SmallJoins
import Derived.LaidMore
import Derived.Lib.LaidTab
import Derived.Stop.Joined
import Derived.SevenTiedAt
import Derived.Deep.Slices
import Derived.Test.YtkbeiadbolihiaaDoorM36Bc
namespace Go.Proofs.YtkbeiadbolihiaaDoor
open Go.ChangeShapes Go.WideShapes Go.ChangeAt Go.RowKit Go.Joins Go.Deep

theorem Tryd.own : ownKnob Tryd.prog.godebug = none := by kernel_rfl
theorem Tryd.laidOut : laidOutB Tryd.prog = true := by kernel_rfl
theorem cell_lt {w : World} {a : Addr} {v : Value} (h : w.cell? a = some v) : a.block < w.heap.size := by
  rcases Nat.lt_or_ge a.block w.heap.size with h' | h'
  · exact h'
  · simp [World.cell?, Array.getElem?_eq_none h'] at h
def lds : List (String × DataW Unit) := [("math/bits.deBruijn32tab", Rows.laid_math_bits_deBruijn32tab), ("math/bits.deBruijn64tab", Rows.laid_math_bits_deBruijn64tab), ("internal/strconv.uint64pow10", Rows.laid_internal_strconv_uint64pow10)]
theorem laidMet_tail {P : Program} {x : String × DataW Unit} {rest : List (String × DataW Unit)} {W : World} (h : laidMet P (x :: rest) W) : laidMet P rest W := by
  obtain ⟨ps, ⟨g, t, cs, fuel, p, q, hg, ht, hvar, hd, hrest, rfl⟩, hnd, hall⟩ := h
  exact ⟨q, hrest, (List.nodup_append.1 hnd).2.1, fun b off hm => hall b off (List.mem_append_right _ hm)⟩
theorem gTab : Tryd.prog.globalNamed "math/bits.deBruijn64tab" = some 0 := by kernel_rfl
theorem tTab : (Tryd.prog.globals[0]?).map (·.type) = some 90 := by kernel_rfl
theorem door_met (os : Os) (args : Array Value) : laidMetH Tryd.prog lds ((World.doorLaid Tryd.prog 400 os).forCall (fun _ _ => 0) ⟨#[], args, []⟩).memory :=
  laidMetH_of_parts3 (fuel := 8) (laidMet_of_run' 8 (by kernel_rfl) (by kernel_rfl)) (by kernel_rfl) (by kernel_rfl)
theorem tab_of_laid {W : World} (h : laidMetH Tryd.prog lds W) : Tab W := by
  rw [MakeChecks.laidMetH_plain _ _ _ (by kernel_rfl)] at h
  have hT : Lib.TabIs Tryd.prog W "math/bits.deBruijn64tab" .u8 debr := Lib.tabIs_of_head gTab tTab Tryd.underlying90 Tryd.underlying5 (by kernel_rfl) (by kernel_rfl) (laidMet_tail h)
  have hc : ∀ i, i < 64 → W.cell? ⟨0, i, none⟩ = some (.int .u8 (debr.getD i 0)) := fun i hi => hT.cell gTab i hi
  exact ⟨by have := cell_lt (hc 0 (by decide)); exact this, hc⟩
theorem gPow : Tryd.prog.globalNamed "internal/strconv.uint64pow10" = some 2 := by kernel_rfl
theorem tPow : (Tryd.prog.globals[2]?).map (·.type) = some 114 := by kernel_rfl
theorem lPow : (Rows.laid_internal_strconv_uint64pow10 : DataW Unit) = Lib.tabData .u64 Lib.pow10Tab := by kernel_rfl
theorem pow_of_laid {W : World} (h : laidMetH Tryd.prog lds W) : Pow W := by
  rw [MakeChecks.laidMetH_plain _ _ _ (by kernel_rfl)] at h
  have h2 : laidMet Tryd.prog [("internal/strconv.uint64pow10", Rows.laid_internal_strconv_uint64pow10)] W := laidMet_tail (laidMet_tail h)
  rw [lPow] at h2
  exact Lib.tabIs_of_head gPow tPow Tryd.underlying114 Tryd.underlying22 (by kernel_rfl) (by kernel_rfl) h2
theorem list4 {α : Type} {l : List α} (h : l.length = 4) : ∃ c0 c1 c2 c3, l = [c0, c1, c2, c3] := by
  match l, h with
  | [c0, c1, c2, c3], _ => exact ⟨c0, c1, c2, c3, rfl⟩
theorem list8 {α : Type} {l : List α} (h : l.length = 8) : ∃ c0 c1 c2 c3 c4 c5 c6 c7, l = [c0, c1, c2, c3, c4, c5, c6, c7] := by
  match l, h with
  | [c0, c1, c2, c3, c4, c5, c6, c7], _ => exact ⟨c0, c1, c2, c3, c4, c5, c6, c7, rfl⟩
theorem list11 {α : Type} {l : List α} (h : l.length = 11) : ∃ c0 c1 c2 c3 c4 c5 c6 c7 c8 c9 c10, l = [c0, c1, c2, c3, c4, c5, c6, c7, c8, c9, c10] := by
  match l, h with
  | [c0, c1, c2, c3, c4, c5, c6, c7, c8, c9, c10], _ => exact ⟨c0, c1, c2, c3, c4, c5, c6, c7, c8, c9, c10, rfl⟩
theorem u64_ofC {n : Int} (h : (Lit.int .u64 n).wf = true) : 0 ≤ n ∧ n ≤ 18446744073709551615 := by
  simp [Lit.wf, IntKind.min, IntKind.max, IntKind.signed, IntKind.bits] at h
  omega
theorem u8_ofC {n : Int} (h : (Lit.int .u8 n).wf = true) : 0 ≤ n ∧ n < 256 := by
  simp [Lit.wf, IntKind.min, IntKind.max, IntKind.signed, IntKind.bits] at h
  omega
/-- The four cells of a class. -/
theorem class_cells {H : Type} {enc : TypeId × Value → H} {W : World} {n : Nat} {cs : List Value} {y : DataW H × List MemPlace} (h : DataW.trod enc Tryd.prog W 0 (fun _ => true) true n 24 cs = some y) :
    ∃ a b c d : Nat, cs = [.int .u64 (a : Nat), .int .u64 (b : Nat), .int .u64 (c : Nat), .int .u64 (d : Nat)] ∧ ∃ P, C4 P a b c d := by
  obtain ⟨xs, q, _, hx, hl, hlen, hfs⟩ := DataW.trod_array Tryd.underlying24 h
  have k26 : Tryd.prog.cellsOf 24 = 4 := by kernel_rfl
  have k24 : Tryd.prog.cellsOf 22 = 1 := by kernel_rfl
  obtain ⟨v0, v1, v2, v3, rfl⟩ := list4 (hl.trans k26)
  obtain ⟨y0, y1, y2, y3, rfl⟩ := list4 hlen
  have e0 : DataW.trod enc Tryd.prog W 0 (fun _ => true) true q 22 [v0] = some y0 := by simpa [k24] using hfs 0 (by decide)
  have e1 : DataW.trod enc Tryd.prog W 0 (fun _ => true) true q 22 [v1] = some y1 := by simpa [k24] using hfs 1 (by decide)
  have e2 : DataW.trod enc Tryd.prog W 0 (fun _ => true) true q 22 [v2] = some y2 := by simpa [k24] using hfs 2 (by decide)
  have e3 : DataW.trod enc Tryd.prog W 0 (fun _ => true) true q 22 [v3] = some y3 := by simpa [k24] using hfs 3 (by decide)
  obtain ⟨a, h0, _, wa⟩ := DataW.trod_int Tryd.underlying22 e0
  obtain ⟨b, h1, _, wb⟩ := DataW.trod_int Tryd.underlying22 e1
  obtain ⟨c, h2, _, wc⟩ := DataW.trod_int Tryd.underlying22 e2
  obtain ⟨d, h3, _, wd⟩ := DataW.trod_int Tryd.underlying22 e3
  simp at h0 h1 h2 h3
  subst h0 h1 h2 h3
  have ha := u64_ofC wa
  have hb := u64_ofC wb
  have hc := u64_ofC wc
  have hd := u64_ofC wd
  obtain ⟨a, rfl⟩ := Int.eq_ofNat_of_zero_le ha.1
  obtain ⟨b, rfl⟩ := Int.eq_ofNat_of_zero_le hb.1
  obtain ⟨c, rfl⟩ := Int.eq_ofNat_of_zero_le hc.1
  obtain ⟨d, rfl⟩ := Int.eq_ofNat_of_zero_le hd.1
  exact ⟨a, b, c, d, rfl, c4_of (by omega) (by omega) (by omega) (by omega)⟩
/-- The eleven cells of a token. -/
theorem tok_cells {H : Type} {enc : TypeId × Value → H} {W : World} {n : Nat} {cs : List Value} {y : DataW H × List MemPlace} (h : DataW.trod enc Tryd.prog W 0 (fun _ => true) true n 26 cs = some y) :
    ∃ (k : Int) (b a0 a1 a2 a3 : Nat) (nt : Bool) (l m : Int) (lz : Bool) (t : Int), cs = [.int .i64 k, .int .u8 (b : Nat), .int .u64 (a0 : Nat), .int .u64 (a1 : Nat), .int .u64 (a2 : Nat), .int .u64 (a3 : Nat), .bool nt, .int .i64 l, .int .i64 m, .bool lz, .int .i64 t] ∧ b < 256 ∧ ∃ P, C4 P a0 a1 a2 a3 := by
  obtain ⟨xs, q, _, hx, hl, hlen, hfs⟩ := DataW.trod_struct Tryd.underlying26 h
  have k26 : Tryd.prog.cellsOf 26 = 11 := by kernel_rfl
  have k3 : Tryd.prog.cellsOf 3 = 1 := by kernel_rfl
  have k5 : Tryd.prog.cellsOf 5 = 1 := by kernel_rfl
  have k4 : Tryd.prog.cellsOf 4 = 1 := by kernel_rfl
  have k24 : Tryd.prog.cellsOf 24 = 4 := by kernel_rfl
  obtain ⟨v0, v1, v2, v3, v4, v5, v6, v7, v8, v9, v10, rfl⟩ := list11 (hl.trans k26)
  obtain ⟨y0, y1, y2, y3, y4, y5, y6, y7, rfl⟩ := list8 hlen
  have e0 : DataW.trod enc Tryd.prog W 0 (fun _ => true) true q 3 [v0] = some y0 := by simpa [k3] using hfs 0 _ rfl
  have e1 : DataW.trod enc Tryd.prog W 0 (fun _ => true) true q 5 [v1] = some y1 := by simpa [k5] using hfs 1 _ rfl
  have e2 : DataW.trod enc Tryd.prog W 0 (fun _ => true) true q 24 [v2, v3, v4, v5] = some y2 := by simpa [k24] using hfs 2 _ rfl
  have e3 : DataW.trod enc Tryd.prog W 0 (fun _ => true) true q 4 [v6] = some y3 := by simpa [k4] using hfs 3 _ rfl
  have e4 : DataW.trod enc Tryd.prog W 0 (fun _ => true) true q 3 [v7] = some y4 := by simpa [k3] using hfs 4 _ rfl
  have e5 : DataW.trod enc Tryd.prog W 0 (fun _ => true) true q 3 [v8] = some y5 := by simpa [k3] using hfs 5 _ rfl
  have e6 : DataW.trod enc Tryd.prog W 0 (fun _ => true) true q 4 [v9] = some y6 := by simpa [k4] using hfs 6 _ rfl
  have e7 : DataW.trod enc Tryd.prog W 0 (fun _ => true) true q 3 [v10] = some y7 := by simpa [k3] using hfs 7 _ rfl
  obtain ⟨k, h0, _, _⟩ := DataW.trod_int Tryd.underlying3 e0
  obtain ⟨b, h1, _, wb⟩ := DataW.trod_int Tryd.underlying5 e1
  obtain ⟨a0, a1, a2, a3, h2, hP⟩ := class_cells e2
  obtain ⟨nt, h3, _⟩ := DataW.trod_bool Tryd.underlying4 e3
  obtain ⟨l, h4, _, _⟩ := DataW.trod_int Tryd.underlying3 e4
  obtain ⟨m, h5, _, _⟩ := DataW.trod_int Tryd.underlying3 e5
  obtain ⟨lz, h6, _⟩ := DataW.trod_bool Tryd.underlying4 e6
  obtain ⟨t, h7, _, _⟩ := DataW.trod_int Tryd.underlying3 e7
  simp at h0 h1 h2 h3 h4 h5 h6 h7
  obtain ⟨rfl, rfl, rfl, rfl⟩ := h2
  subst h0 h1 h3 h4 h5 h6 h7
  have hb := u8_ofC wb
  obtain ⟨b, rfl⟩ := Int.eq_ofNat_of_zero_le hb.1
  exact ⟨k, b, a0, a1, a2, a3, nt, l, m, lz, t, rfl, by omega, hP⟩
set_option maxRecDepth 100000 in
/-- A token that came in. -/
theorem tok_of {H : Type} {enc : TypeId × Value → H} {W : World} {b0 : Nat} {v : Value} {dd : DataW H} {p : List MemPlace} (hv : Value.okWide Tryd.prog W .any b0 26 v) (h : DataW.Trod enc Tryd.prog W 0 (fun _ => true) true 26 v dd p) :
    ∃ (k : Int) (b a0 a1 a2 a3 : Nat) (nt : Bool) (l m : Int) (lz : Bool) (t : Int), v = tokI k b a0 a1 a2 a3 nt l m lz t ∧ b < 256 ∧ ∃ P, C4 P a0 a1 a2 a3 := by
  obtain ⟨fuel, hf⟩ := h
  obtain ⟨k, b, a0, a1, a2, a3, nt, l, m, lz, t, hcs, hb, hP⟩ := tok_cells hf
  refine ⟨k, b, a0, a1, a2, a3, nt, l, m, lz, t, ?_, hb, hP⟩
  simp only [Value.okWide, Tryd.underlying26] at hv
  obtain ⟨cs, rfl, hsz, _⟩ := hv
  simp [Value.cells] at hcs
  unfold tokI
  rw [← hcs]
end Go.Proofs.YtkbeiadbolihiaaDoor
namespace Go.Proofs.YtkbeiadbolihiaaDoor
open Go.ChangeShapes Go.WideShapes Go.ChangeAt Go.RowKit Go.Joins Go.Deep

theorem bulk_one {H : Type} (d : DataW H) : 1 ≤ Rows.uptoBulk d := by
  cases d with
  | lit l => cases l <;> simp [Rows.uptoBulk]
  | nil => simp [Rows.uptoBulk]
  | ptr d => simp [Rows.uptoBulk]
  | slice elems spare => simp [Rows.uptoBulk]
  | agg parts => simp [Rows.uptoBulk]
  | iface t d => simp [Rows.uptoBulk]
  | map entries => simp [Rows.uptoBulk]
  | held h => simp [Rows.uptoBulk]
theorem bulk_length {H : Type} (l : List (DataW H)) : l.length ≤ Rows.uptoBulkAll l := by
  induction l with
  | nil => simp [Rows.uptoBulkAll]
  | cons d l ih =>
    have := bulk_one d
    simp [Rows.uptoBulkAll]
    omega
set_option maxRecDepth 20000 in
/-- A list of tokens that came in. -/
theorem rdk_of {H : Type} {enc : TypeId × Value → H} {W : World} {n : Nat} {v : Value} {y : DataW H × List MemPlace} (h : DataW.trod enc Tryd.prog W 0 (fun _ => true) true n 32 [v] = some y) :
    ∃ ao len cap F, v = .slice ao len cap ∧ RdK W ao len F ∧ (len = 0 ∨ ∃ elems spare, y.1 = .slice elems spare ∧ elems.length = len) := by
  have k26 : Tryd.prog.cellsOf 26 = 11 := by kernel_rfl
  rcases open_slice Tryd.underlying32 h with ⟨hcs, _⟩ | ⟨a, len, cap, m, q, D, Pl, hcs, _, hlc, _, hm, hx, hel⟩
  · simp at hcs
    exact ⟨none, 0, 0, fun _ => ⟨0, 0, 0, 0, 0, 0, fun _ => false, false, 0, 0, false, 0⟩, hcs, ⟨fun k h => by omega, fun h => by omega⟩, .inl rfl⟩
  · simp at hcs
    subst hcs
    have hml : len ≤ m := by rw [hm]; split <;> omega
    have pick : ∀ k, ∃ x : TkR, k < len → W.cells? 0 (a.add (k * 11)) 11 = some [.int .i64 x.k, .int .u8 (x.b : Nat), .int .u64 (x.a0 : Nat), .int .u64 (x.a1 : Nat), .int .u64 (x.a2 : Nat), .int .u64 (x.a3 : Nat), .bool x.nt, .int .i64 x.l, .int .i64 x.m, .bool x.lz, .int .i64 x.t] ∧ x.ok := by
      intro k
      by_cases hk : k < len
      · obtain ⟨cs', hc1, hc2⟩ := hel k (by omega)
        rw [k26] at hc1
        obtain ⟨kk, b, a0, a1, a2, a3, nt, l, m, lz, t, rfl, hb, P, hP⟩ := tok_cells hc2
        exact ⟨⟨kk, b, a0, a1, a2, a3, P, nt, l, m, lz, t⟩, fun _ => ⟨hc1, hb, hP⟩⟩
      · exact ⟨⟨0, 0, 0, 0, 0, 0, fun _ => false, false, 0, 0, false, 0⟩, fun h => absurd h hk⟩
    obtain ⟨F, hF⟩ := Classical.axiomOfChoice pick
    refine ⟨some a, len, cap, F, rfl, ⟨fun k hk => (hF k hk).2, fun h0 => ?_⟩, .inr ⟨_, _, by rw [hx], by simp⟩⟩
    obtain ⟨b, off, spot⟩ := a
    have hc0 := (World.cells?_some (hF 0 h0).1).2.2 0 (by decide)
    have hc1 : W.cell? ⟨b, off, spot⟩ = some (.int .i64 (F 0).k) := by simpa [Addr.add] using hc0
    have hspot : spot = none := by simpa using World.cell?_spot hc1
    subst hspot
    have hbb : b < W.heap.size := cell_lt hc1
    refine ⟨b, off, rfl, hbb, fun k hk => ?_⟩
    have hcells := (World.cells?_some (hF k hk).1).2.2
    have s0 := hcells 0 (by decide)
    have s1 := hcells 1 (by decide)
    have s2 := hcells 2 (by decide)
    have s3 := hcells 3 (by decide)
    have s4 := hcells 4 (by decide)
    have s5 := hcells 5 (by decide)
    have s6 := hcells 6 (by decide)
    have s7 := hcells 7 (by decide)
    have s8 := hcells 8 (by decide)
    have s9 := hcells 9 (by decide)
    have s10 := hcells 10 (by decide)
    by_cases hk0 : k = 0
    · subst hk0
      exact ⟨by simpa [Addr.add] using s0, by simpa [Addr.add] using s1, by simpa [Addr.add] using s2, by simpa [Addr.add] using s3, by simpa [Addr.add] using s4, by simpa [Addr.add] using s5, by simpa [Addr.add] using s6, by simpa [Addr.add] using s7, by simpa [Addr.add] using s8, by simpa [Addr.add] using s9, by simpa [Addr.add] using s10⟩
    · have hk5 : ¬ k * 11 = 0 := by omega
      exact ⟨by simpa [Addr.add, hk5] using s0, by simpa [Addr.add, hk5] using s1, by simpa [Addr.add, hk5] using s2, by simpa [Addr.add, hk5] using s3, by simpa [Addr.add, hk5] using s4, by simpa [Addr.add, hk5] using s5, by simpa [Addr.add, hk5] using s6, by simpa [Addr.add, hk5] using s7, by simpa [Addr.add, hk5] using s8, by simpa [Addr.add, hk5] using s9, by simpa [Addr.add, hk5] using s10⟩
end Go.Proofs.YtkbeiadbolihiaaDoor
