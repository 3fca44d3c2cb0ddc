/- Tokens that came in, and the listed tables, as the card ties them. Bytes that came in, as the walks take them. TokenAgain: the walk of the law. -/
import Derived.Test.YtkbeiadbolihiaaDoorRows
import Derived.Test.YtkbeiadbolihiaaDoorM19Ck
import Derived.Test.YtkbeiadbolihiaaDoorM03It
import Derived.ProofKit
import Derived.OpenShut
import Derived.Lib.SmallJoins
import Derived.LaidMore
import Derived.Lib.LaidTab
import Derived.Stop.Joined
import Derived.SevenTiedAt
import Derived.Deep.Slices
import Derived.Test.YtkbeiadbolihiaaDoorM01Bu
import Derived.Test.YtkbeiadbolihiaaDoorM37Bd
namespace Go.Proofs.YtkbeiadbolihiaaDoor
open Go.ChangeShapes Go.WideShapes Go.ChangeAt Go.RowKit Go.Joins Go.Deep

theorem Tryd.own : ownKnob Tryd.prog.godebug = none := by kernel_rfl
theorem Tryd.laidOut : laidOutB Tryd.prog = true := by kernel_rfl
theorem cell_lt {w : World} {a : Addr} {v : Value} (h : w.cell? a = some v) : a.block < w.heap.size := by
  rcases Nat.lt_or_ge a.block w.heap.size with h' | h'
  · exact h'
  · simp [World.cell?, Array.getElem?_eq_none h'] at h
def lds : List (String × DataW Unit) := [("math/bits.deBruijn32tab", Rows.laid_math_bits_deBruijn32tab), ("math/bits.deBruijn64tab", Rows.laid_math_bits_deBruijn64tab), ("internal/strconv.uint64pow10", Rows.laid_internal_strconv_uint64pow10)]
theorem laidMet_tail {P : Program} {x : String × DataW Unit} {rest : List (String × DataW Unit)} {W : World} (h : laidMet P (x :: rest) W) : laidMet P rest W := by
  obtain ⟨ps, ⟨g, t, cs, fuel, p, q, hg, ht, hvar, hd, hrest, rfl⟩, hnd, hall⟩ := h
  exact ⟨q, hrest, (List.nodup_append.1 hnd).2.1, fun b off hm => hall b off (List.mem_append_right _ hm)⟩
theorem gTab : Tryd.prog.globalNamed "math/bits.deBruijn64tab" = some 0 := by kernel_rfl
theorem tTab : (Tryd.prog.globals[0]?).map (·.type) = some 90 := by kernel_rfl
theorem door_met (os : Os) (args : Array Value) : laidMetH Tryd.prog lds ((World.doorLaid Tryd.prog 400 os).forCall (fun _ _ => 0) ⟨#[], args, []⟩).memory :=
  laidMetH_of_parts3 (fuel := 8) (laidMet_of_run' 8 (by kernel_rfl) (by kernel_rfl)) (by kernel_rfl) (by kernel_rfl)
theorem tab_of_laid {W : World} (h : laidMetH Tryd.prog lds W) : Tab W := by
  rw [MakeChecks.laidMetH_plain _ _ _ (by kernel_rfl)] at h
  have hT : Lib.TabIs Tryd.prog W "math/bits.deBruijn64tab" .u8 debr := Lib.tabIs_of_head gTab tTab Tryd.underlying90 Tryd.underlying5 (by kernel_rfl) (by kernel_rfl) (laidMet_tail h)
  have hc : ∀ i, i < 64 → W.cell? ⟨0, i, none⟩ = some (.int .u8 (debr.getD i 0)) := fun i hi => hT.cell gTab i hi
  exact ⟨by have := cell_lt (hc 0 (by decide)); exact this, hc⟩
theorem gPow : Tryd.prog.globalNamed "internal/strconv.uint64pow10" = some 2 := by kernel_rfl
theorem tPow : (Tryd.prog.globals[2]?).map (·.type) = some 114 := by kernel_rfl
theorem lPow : (Rows.laid_internal_strconv_uint64pow10 : DataW Unit) = Lib.tabData .u64 Lib.pow10Tab := by kernel_rfl
theorem pow_of_laid {W : World} (h : laidMetH Tryd.prog lds W) : Pow W := by
  rw [MakeChecks.laidMetH_plain _ _ _ (by kernel_rfl)] at h
  have h2 : laidMet Tryd.prog [("internal/strconv.uint64pow10", Rows.laid_internal_strconv_uint64pow10)] W := laidMet_tail (laidMet_tail h)
  rw [lPow] at h2
  exact Lib.tabIs_of_head gPow tPow Tryd.underlying114 Tryd.underlying22 (by kernel_rfl) (by kernel_rfl) h2
theorem list4 {α : Type} {l : List α} (h : l.length = 4) : ∃ c0 c1 c2 c3, l = [c0, c1, c2, c3] := by
  match l, h with
  | [c0, c1, c2, c3], _ => exact ⟨c0, c1, c2, c3, rfl⟩
theorem list8 {α : Type} {l : List α} (h : l.length = 8) : ∃ c0 c1 c2 c3 c4 c5 c6 c7, l = [c0, c1, c2, c3, c4, c5, c6, c7] := by
  match l, h with
  | [c0, c1, c2, c3, c4, c5, c6, c7], _ => exact ⟨c0, c1, c2, c3, c4, c5, c6, c7, rfl⟩
theorem list11 {α : Type} {l : List α} (h : l.length = 11) : ∃ c0 c1 c2 c3 c4 c5 c6 c7 c8 c9 c10, l = [c0, c1, c2, c3, c4, c5, c6, c7, c8, c9, c10] := by
  match l, h with
  | [c0, c1, c2, c3, c4, c5, c6, c7, c8, c9, c10], _ => exact ⟨c0, c1, c2, c3, c4, c5, c6, c7, c8, c9, c10, rfl⟩
theorem u64_ofC {n : Int} (h : (Lit.int .u64 n).wf = true) : 0 ≤ n ∧ n ≤ 18446744073709551615 := by
  simp [Lit.wf, IntKind.min, IntKind.max, IntKind.signed, IntKind.bits] at h
  omega
theorem u8_ofC {n : Int} (h : (Lit.int .u8 n).wf = true) : 0 ≤ n ∧ n < 256 := by
  simp [Lit.wf, IntKind.min, IntKind.max, IntKind.signed, IntKind.bits] at h
  omega
/-- The four cells of a class. -/
theorem class_cells {H : Type} {enc : TypeId × Value → H} {W : World} {n : Nat} {cs : List Value} {y : DataW H × List MemPlace} (h : DataW.trod enc Tryd.prog W 0 (fun _ => true) true n 24 cs = some y) :
    ∃ a b c d : Nat, cs = [.int .u64 (a : Nat), .int .u64 (b : Nat), .int .u64 (c : Nat), .int .u64 (d : Nat)] ∧ ∃ P, C4 P a b c d := by
  obtain ⟨xs, q, _, hx, hl, hlen, hfs⟩ := DataW.trod_array Tryd.underlying24 h
  have k26 : Tryd.prog.cellsOf 24 = 4 := by kernel_rfl
  have k24 : Tryd.prog.cellsOf 22 = 1 := by kernel_rfl
  obtain ⟨v0, v1, v2, v3, rfl⟩ := list4 (hl.trans k26)
  obtain ⟨y0, y1, y2, y3, rfl⟩ := list4 hlen
  have e0 : DataW.trod enc Tryd.prog W 0 (fun _ => true) true q 22 [v0] = some y0 := by simpa [k24] using hfs 0 (by decide)
  have e1 : DataW.trod enc Tryd.prog W 0 (fun _ => true) true q 22 [v1] = some y1 := by simpa [k24] using hfs 1 (by decide)
  have e2 : DataW.trod enc Tryd.prog W 0 (fun _ => true) true q 22 [v2] = some y2 := by simpa [k24] using hfs 2 (by decide)
  have e3 : DataW.trod enc Tryd.prog W 0 (fun _ => true) true q 22 [v3] = some y3 := by simpa [k24] using hfs 3 (by decide)
  obtain ⟨a, h0, _, wa⟩ := DataW.trod_int Tryd.underlying22 e0
  obtain ⟨b, h1, _, wb⟩ := DataW.trod_int Tryd.underlying22 e1
  obtain ⟨c, h2, _, wc⟩ := DataW.trod_int Tryd.underlying22 e2
  obtain ⟨d, h3, _, wd⟩ := DataW.trod_int Tryd.underlying22 e3
  simp at h0 h1 h2 h3
  subst h0 h1 h2 h3
  have ha := u64_ofC wa
  have hb := u64_ofC wb
  have hc := u64_ofC wc
  have hd := u64_ofC wd
  obtain ⟨a, rfl⟩ := Int.eq_ofNat_of_zero_le ha.1
  obtain ⟨b, rfl⟩ := Int.eq_ofNat_of_zero_le hb.1
  obtain ⟨c, rfl⟩ := Int.eq_ofNat_of_zero_le hc.1
  obtain ⟨d, rfl⟩ := Int.eq_ofNat_of_zero_le hd.1
  exact ⟨a, b, c, d, rfl, c4_of (by omega) (by omega) (by omega) (by omega)⟩
/-- The eleven cells of a token. -/
theorem tok_cells {H : Type} {enc : TypeId × Value → H} {W : World} {n : Nat} {cs : List Value} {y : DataW H × List MemPlace} (h : DataW.trod enc Tryd.prog W 0 (fun _ => true) true n 26 cs = some y) :
    ∃ (k : Int) (b a0 a1 a2 a3 : Nat) (nt : Bool) (l m : Int) (lz : Bool) (t : Int), cs = [.int .i64 k, .int .u8 (b : Nat), .int .u64 (a0 : Nat), .int .u64 (a1 : Nat), .int .u64 (a2 : Nat), .int .u64 (a3 : Nat), .bool nt, .int .i64 l, .int .i64 m, .bool lz, .int .i64 t] ∧ b < 256 ∧ ∃ P, C4 P a0 a1 a2 a3 := by
  obtain ⟨xs, q, _, hx, hl, hlen, hfs⟩ := DataW.trod_struct Tryd.underlying26 h
  have k26 : Tryd.prog.cellsOf 26 = 11 := by kernel_rfl
  have k3 : Tryd.prog.cellsOf 3 = 1 := by kernel_rfl
  have k5 : Tryd.prog.cellsOf 5 = 1 := by kernel_rfl
  have k4 : Tryd.prog.cellsOf 4 = 1 := by kernel_rfl
  have k24 : Tryd.prog.cellsOf 24 = 4 := by kernel_rfl
  obtain ⟨v0, v1, v2, v3, v4, v5, v6, v7, v8, v9, v10, rfl⟩ := list11 (hl.trans k26)
  obtain ⟨y0, y1, y2, y3, y4, y5, y6, y7, rfl⟩ := list8 hlen
  have e0 : DataW.trod enc Tryd.prog W 0 (fun _ => true) true q 3 [v0] = some y0 := by simpa [k3] using hfs 0 _ rfl
  have e1 : DataW.trod enc Tryd.prog W 0 (fun _ => true) true q 5 [v1] = some y1 := by simpa [k5] using hfs 1 _ rfl
  have e2 : DataW.trod enc Tryd.prog W 0 (fun _ => true) true q 24 [v2, v3, v4, v5] = some y2 := by simpa [k24] using hfs 2 _ rfl
  have e3 : DataW.trod enc Tryd.prog W 0 (fun _ => true) true q 4 [v6] = some y3 := by simpa [k4] using hfs 3 _ rfl
  have e4 : DataW.trod enc Tryd.prog W 0 (fun _ => true) true q 3 [v7] = some y4 := by simpa [k3] using hfs 4 _ rfl
  have e5 : DataW.trod enc Tryd.prog W 0 (fun _ => true) true q 3 [v8] = some y5 := by simpa [k3] using hfs 5 _ rfl
  have e6 : DataW.trod enc Tryd.prog W 0 (fun _ => true) true q 4 [v9] = some y6 := by simpa [k4] using hfs 6 _ rfl
  have e7 : DataW.trod enc Tryd.prog W 0 (fun _ => true) true q 3 [v10] = some y7 := by simpa [k3] using hfs 7 _ rfl
  obtain ⟨k, h0, _, _⟩ := DataW.trod_int Tryd.underlying3 e0
  obtain ⟨b, h1, _, wb⟩ := DataW.trod_int Tryd.underlying5 e1
  obtain ⟨a0, a1, a2, a3, h2, hP⟩ := class_cells e2
  obtain ⟨nt, h3, _⟩ := DataW.trod_bool Tryd.underlying4 e3
  obtain ⟨l, h4, _, _⟩ := DataW.trod_int Tryd.underlying3 e4
  obtain ⟨m, h5, _, _⟩ := DataW.trod_int Tryd.underlying3 e5
  obtain ⟨lz, h6, _⟩ := DataW.trod_bool Tryd.underlying4 e6
  obtain ⟨t, h7, _, _⟩ := DataW.trod_int Tryd.underlying3 e7
  simp at h0 h1 h2 h3 h4 h5 h6 h7
  obtain ⟨rfl, rfl, rfl, rfl⟩ := h2
  subst h0 h1 h3 h4 h5 h6 h7
  have hb := u8_ofC wb
  obtain ⟨b, rfl⟩ := Int.eq_ofNat_of_zero_le hb.1
  exact ⟨k, b, a0, a1, a2, a3, nt, l, m, lz, t, rfl, by omega, hP⟩
set_option maxRecDepth 100000 in
/-- A token that came in. -/
theorem tok_of {H : Type} {enc : TypeId × Value → H} {W : World} {b0 : Nat} {v : Value} {dd : DataW H} {p : List MemPlace} (hv : Value.okWide Tryd.prog W .any b0 26 v) (h : DataW.Trod enc Tryd.prog W 0 (fun _ => true) true 26 v dd p) :
    ∃ (k : Int) (b a0 a1 a2 a3 : Nat) (nt : Bool) (l m : Int) (lz : Bool) (t : Int), v = tokI k b a0 a1 a2 a3 nt l m lz t ∧ b < 256 ∧ ∃ P, C4 P a0 a1 a2 a3 := by
  obtain ⟨fuel, hf⟩ := h
  obtain ⟨k, b, a0, a1, a2, a3, nt, l, m, lz, t, hcs, hb, hP⟩ := tok_cells hf
  refine ⟨k, b, a0, a1, a2, a3, nt, l, m, lz, t, ?_, hb, hP⟩
  simp only [Value.okWide, Tryd.underlying26] at hv
  obtain ⟨cs, rfl, hsz, _⟩ := hv
  simp [Value.cells] at hcs
  unfold tokI
  rw [← hcs]
end Go.Proofs.YtkbeiadbolihiaaDoor
namespace Go.Proofs.YtkbeiadbolihiaaDoor
open Go.ChangeShapes Go.WideShapes Go.ChangeAt Go.RowKit
theorem rd_of {H : Type} {enc : TypeId × Value → H} {W : World} {n : Nat} {v : Value} {y : DataW H × List MemPlace} (h : DataW.trod enc Tryd.prog W 0 (fun _ => true) true n 34 [v] = some y) :
    ∃ ao len cap f, v = .slice ao len cap ∧ Rd W ao len f ∧ len ≤ cap ∧ ((ao = none ∧ len = 0 ∧ cap = 0) ∨ ∃ elems spare, y.1 = .slice elems spare ∧ elems.length = len ∧ ∃ a, ao = some a) := by
  rcases open_ints Tryd.underlying34 Tryd.underlying5 (by kernel_rfl) h with ⟨hcs, _⟩ | ⟨x, l, c, zs, hcs, hlc, hl, hm, hz, hx, hcell, hwz⟩
  · simp at hcs
    exact ⟨none, 0, 0, fun _ => 0, hcs, ⟨fun i hi => by omega, fun h => by omega⟩, Nat.le_refl _, .inl ⟨rfl, rfl, rfl⟩⟩
  · simp only [if_true] at hz
    simp at hcs
    have hb : ∀ i, i < zs.length → 0 ≤ zs.getD i 0 ∧ zs.getD i 0 < 256 := by
      intro i hi
      have hmem : zs.getD i 0 ∈ zs := by rw [List.getD_eq_getElem?_getD, List.getElem?_eq_getElem hi]; exact List.getElem_mem hi
      have := hwz _ hmem
      generalize zs.getD i 0 = x0 at *
      simp [Lit.wf, IntKind.min, IntKind.max, IntKind.signed, IntKind.bits] at this
      omega
    refine ⟨some x, l, c, fun i => (zs.getD i 0).toNat, hcs, ⟨fun i hi => ?_, fun h0 => ?_⟩, by omega, .inr ⟨_, _, by rw [hx], ?_, _, rfl⟩⟩
    · have := hb i (by omega); omega
    · obtain ⟨b, off, spot⟩ := x
      have hc := hcell 0 (by omega)
      have hspot : spot = none := by simpa [Addr.add] using World.cell?_spot hc
      subst hspot
      have hbb : b < W.heap.size := by have := cell_lt hc; simpa [Addr.add] using this
      refine ⟨b, off, rfl, hbb, fun i hi => ?_⟩
      have hci := hcell i (by omega)
      have e : (((zs.getD i 0).toNat : Nat) : Int) = zs.getD i 0 := Int.toNat_of_nonneg (hb i (by omega)).1
      rw [e]
      by_cases hi0 : i = 0
      · subst hi0; simpa [Addr.add] using hci
      · simpa [Addr.add, hi0] using hci
    · simp [lits]; omega
end Go.Proofs.YtkbeiadbolihiaaDoor
namespace Go.Proofs.YtkbeiadbolihiaaDoor
open Go.RowKit Go.Shelf
theorem prB_congr {F G : Nat → TkR} : ∀ {n : Nat}, (∀ i, i < n → (F i).text = (G i).text) → prB F n = prB G n
  | 0, _ => rfl
  | n + 1, h => by rw [prB, prB, prB_congr fun i hi => h i (Nat.lt_succ_of_lt hi), h n (Nat.lt_succ_self n)]
theorem list_map_range {α : Type} (l : List α) (d : α) : l = (List.range l.length).map fun i => l.getD i d := by
  apply List.ext_getElem
  · simp
  · intro i h1 h2
    simp [h1]
theorem wl_num {z : Nat → Nat} {n : Nat} : ∀ (f i : Nat), i ≤ n → (wl z n f i).length ≤ n - i
  | 0, _, _ => Nat.zero_le _
  | f + 1, i, hi => by
    rw [wl]
    split
    · simp
    · rename_i h
      split
      · rename_i he
        have h1 := wrd_lt (z := z) (n := n) (k := i) (by omega) he
        have := wl_num (z := z) f (wrd z n i).en h1.2.1
        rw [List.length_cons]
        omega
      · simp; omega
set_option maxRecDepth 20000 in
set_option maxHeartbeats 8000000 in
theorem again_short (ao : Option Addr) (n cap : Nat) (z : Nat → Nat) (w : World) (hr : Rd w ao n z) (hn : (n : Int) ≤ 1024) (hT : Tab w) (hW : Pow w) : Calls Tryd.prog 6 #[.slice ao n cap] w (RetB w true) := by
  have HL := lex_short ao n cap z w hr hn
  have hmay := wl_chk hr.small 1100 0
  have hnum := wl_num (z := z) (n := n) 1100 0 (Nat.zero_le _)
  unfold RetLx at HL
  obtain ⟨tl, htl⟩ : ∃ tl, wl z n 1100 0 = tl := ⟨_, rfl⟩
  rw [htl] at HL hmay hnum
  have hmap := list_map_range tl (TokS.bad 0 0)
  generalize hF0 : (fun i => tl.getD i (TokS.bad 0 0)) = T at *
  have hTm : ∀ i, i < tl.length → T i ∈ tl := fun i hi => by
    rw [← hF0]
    show tl.getD i _ ∈ tl
    rw [List.getD_eq_getElem?_getD, List.getElem?_eq_getElem hi]
    exact List.getElem_mem hi
  generalize hm : tl.length = m at *
  clear hF0 htl
  go_enter Tryd.func6, Tryd.ntmps6
  go_wp2_with fail
  refine HL.mono ?_
  rintro e w1 (⟨ao1, cap1, her, rfl, ho1, hb1⟩ | ⟨s, hs, hse, rfl, hb1⟩)
  · rw [hmap] at ho1
    have hrk := rdk_row ho1 fun i hi => (hmay _ (hTm i hi) (her _ (hTm i hi))).2
    have hck : ∀ i, i < m → (T i).r.chk = true := fun i hi => (hmay _ (hTm i hi) (her _ (hTm i hi))).1
    obtain ⟨F, hF⟩ : ∃ F : Nat → TkR, (fun i => (T i).r) = F := ⟨_, rfl⟩
    have hck' : Hid (∀ i, i < m → (F i).chk = true) := by rw [← hF]; exact hck
    rw [hF] at hrk
    clear HL hmay hmap hTm her ho1 hck hr hF
    clear hm
    have hTb := hT.below hb1
    have hPw := hW.below hb1
    go_wp2_with fail
    refine (begun_any _).mono ?_
    rintro e w2 ⟨rfl, hb2⟩
    have bw2 := hb1.trans (hb2.mono hb1.size)
    have hr2 := hrk.below hb2
    have hTb2 := hTb.below hb2
    have hPw2 := hPw.below hb2
    clear hrk hTb hPw hb2 hT hW
    go_wp2_with fail
    go_loopw [27] (fun i wr => ∃ k : Nat, k ≤ m ∧ i = .int .i64 (k : Nat) ∧ Below w2.heap.size w2 wr ∧ Hid (BkI F k)) (fun i _ => m - (intOf i).toNat)
    case atStart => exact ⟨0, Nat.zero_le _, rfl, Below.refl _ _, ⟨fun i hi => by omega, fun i hi => by omega⟩⟩
    case round =>
      obtain ⟨k, hk, rfl, hI, hK⟩ := hrel
      by_cases hlt : k < m
      · obtain ⟨bb, off, rfl, hbb, hc⟩ := hr2.at_ (by omega)
        have hok := hr2.ok k hlt
        have hki : (k : Int) < (m : Int) := by omega
        have hkn : ∃ kp : Nat, (0 < k → kp + 1 = k) ∧ kp < m := ⟨k - 1, by omega, by omega⟩
        obtain ⟨kp, hkp, hkq⟩ := hkn
        obtain ⟨c0, c1, c2, c3, c4, c5, c6, c7, c8, c9, c10⟩ := hc k hlt
        obtain ⟨p0, -⟩ := hc kp hkq
        rw [← hI.cell (p := ⟨bb, off + k * 11, none⟩) hbb] at c0
        rw [← hI.cell (p := ⟨bb, off + k * 11 + 1, none⟩) hbb] at c1
        rw [← hI.cell (p := ⟨bb, off + k * 11 + 2, none⟩) hbb] at c2
        rw [← hI.cell (p := ⟨bb, off + k * 11 + 3, none⟩) hbb] at c3
        rw [← hI.cell (p := ⟨bb, off + k * 11 + 4, none⟩) hbb] at c4
        rw [← hI.cell (p := ⟨bb, off + k * 11 + 5, none⟩) hbb] at c5
        rw [← hI.cell (p := ⟨bb, off + k * 11 + 6, none⟩) hbb] at c6
        rw [← hI.cell (p := ⟨bb, off + k * 11 + 7, none⟩) hbb] at c7
        rw [← hI.cell (p := ⟨bb, off + k * 11 + 8, none⟩) hbb] at c8
        rw [← hI.cell (p := ⟨bb, off + k * 11 + 9, none⟩) hbb] at c9
        rw [← hI.cell (p := ⟨bb, off + k * 11 + 10, none⟩) hbb] at c10
        rw [← hI.cell (p := ⟨bb, off + kp * 11, none⟩) hbb] at p0
        have hbr := Nat.lt_of_lt_of_le hbb hI.size
        have hA : Below wr.heap.size wr (wr.alloc (.cells #[.int .i64 (F k).k, .int .u8 ((F k).b : Nat), .int .u64 ((F k).a0 : Nat), .int .u64 ((F k).a1 : Nat), .int .u64 ((F k).a2 : Nat), .int .u64 ((F k).a3 : Nat), .bool (F k).nt, .int .i64 (F k).l, .int .i64 (F k).m, .bool (F k).lz, .int .i64 (F k).t] 26)) := (Below.refl _ _).alloc (Nat.le_refl _) _
        have q0 := Cl.new wr 26 [.int .i64 (F k).k, .int .u8 ((F k).b : Nat), .int .u64 ((F k).a0 : Nat), .int .u64 ((F k).a1 : Nat), .int .u64 ((F k).a2 : Nat), .int .u64 ((F k).a3 : Nat), .bool (F k).nt, .int .i64 (F k).l, .int .i64 (F k).m, .bool (F k).lz, .int .i64 (F k).t]
        have hC := check_all (F k).k (F k).b (F k).a0 (F k).a1 (F k).a2 (F k).a3 (F k).nt (F k).l (F k).m (F k).lz (F k).t (wr.alloc (.cells #[.int .i64 (F k).k, .int .u8 ((F k).b : Nat), .int .u64 ((F k).a0 : Nat), .int .u64 ((F k).a1 : Nat), .int .u64 ((F k).a2 : Nat), .int .u64 ((F k).a3 : Nat), .bool (F k).nt, .int .i64 (F k).l, .int .i64 (F k).m, .bool (F k).lz, .int .i64 (F k).t] 26)) hok.h4
        unfold RetN tokI at hC
        have hck1 := hck'.out k hlt
        have HX1 : ((0 < k → ¬ ((F k).k = 7 ∧ (F kp).k = 7))) → Hid (BkI F (k + 1)) := fun h2 => hK.out.next hck1 (fun h => by rw [show k - 1 = kp by have := hkp h; omega]; exact h2 h)
        rw [show chk (F k).k (F k).b (F k).P (F k).nt (F k).l (F k).m (F k).lz (F k).t = true from hck1, erV_true] at hC
        have HIA : ∀ w3, Below (wr.alloc (.cells #[.int .i64 (F k).k, .int .u8 ((F k).b : Nat), .int .u64 ((F k).a0 : Nat), .int .u64 ((F k).a1 : Nat), .int .u64 ((F k).a2 : Nat), .int .u64 ((F k).a3 : Nat), .bool (F k).nt, .int .i64 (F k).l, .int .i64 (F k).m, .bool (F k).lz, .int .i64 (F k).t] 26)).heap.size (wr.alloc (.cells #[.int .i64 (F k).k, .int .u8 ((F k).b : Nat), .int .u64 ((F k).a0 : Nat), .int .u64 ((F k).a1 : Nat), .int .u64 ((F k).a2 : Nat), .int .u64 ((F k).a3 : Nat), .bool (F k).nt, .int .i64 (F k).l, .int .i64 (F k).m, .bool (F k).lz, .int .i64 (F k).t] 26)) w3 → Below w2.heap.size w2 w3 := fun w3 h => hI.trans ((hA.trans (h.mono hA.size)).mono hI.size)
        have HP : ∀ w3, Below (wr.alloc (.cells #[.int .i64 (F k).k, .int .u8 ((F k).b : Nat), .int .u64 ((F k).a0 : Nat), .int .u64 ((F k).a1 : Nat), .int .u64 ((F k).a2 : Nat), .int .u64 ((F k).a3 : Nat), .bool (F k).nt, .int .i64 (F k).l, .int .i64 (F k).m, .bool (F k).lz, .int .i64 (F k).t] 26)).heap.size (wr.alloc (.cells #[.int .i64 (F k).k, .int .u8 ((F k).b : Nat), .int .u64 ((F k).a0 : Nat), .int .u64 ((F k).a1 : Nat), .int .u64 ((F k).a2 : Nat), .int .u64 ((F k).a3 : Nat), .bool (F k).nt, .int .i64 (F k).l, .int .i64 (F k).m, .bool (F k).lz, .int .i64 (F k).t] 26)) w3 → w3.cell? ⟨bb, off + kp * 11, none⟩ = some (.int .i64 (F kp).k) ∧ w3.cell? ⟨wr.heap.size, 0, none⟩ = some (.int .i64 (F k).k) := fun w3 h => ⟨by rw [(hA.trans (h.mono hA.size)).cell (p := ⟨bb, off + kp * 11, none⟩) hbr]; exact p0, (q0.below h).cell 0 rfl⟩
        clear hK hok hc hA q0 p0 hck1 hck'
        generalize F k = q at *
        generalize (F kp).k = qk at *
        have wk : 0 < k → IntKind.i64.wrap ((k : Int) - 1) = ((kp : Nat) : Int) := fun h => by have := hkp h; rw [IntKind.wrap_i64]; omega
        have lk : ((kp : Nat) : Int) < (m : Int) := by omega
        by_cases hk0 : 0 < k
        · have hk0i : (0 : Int) < (k : Int) := by omega
          have wk1 := wk hk0
          have HX2 := fun h => HX1 (fun _ => h)
          clear HX1 wk hkp
          cases h7 : (q.k == 7) with
          | false =>
            have HY := HX2 (fun h => by rw [h.1] at h7; cases h7)
            clear HX2
            go_wp2_with fail
            refine hC.mono ?_
            rintro e w3 ⟨rfl, b2⟩
            have bw3 := HIA w3 b2
            have p2 := (HP w3 b2).2
            clear hC b2 HIA HP c0 c1 c2 c3 c4 c5 c6 c7 c8 c9 c10
            go_wp2_with fail
            go_roundw
            case rel => exact ⟨k + 1, by omega, by go_num, bw3, HY⟩
            case measure => simp [intOf]; omega
          | true =>
            cases h8 : (qk == 7) with
            | false =>
              have HY := HX2 (fun h => by rw [h.2] at h8; cases h8)
              clear HX2
              go_wp2_with fail
              refine hC.mono ?_
              rintro e w3 ⟨rfl, b2⟩
              have bw3 := HIA w3 b2
              obtain ⟨p1, p2⟩ := HP w3 b2
              clear hC b2 HIA HP c0 c1 c2 c3 c4 c5 c6 c7 c8 c9 c10
              go_wp2_with fail
              go_roundw
              case rel => exact ⟨k + 1, by omega, by go_num, bw3, HY⟩
              case measure => simp [intOf]; omega
            | true =>
              clear HX2
              go_wp2_with fail
              refine hC.mono ?_
              rintro e w3 ⟨rfl, b2⟩
              have bw3 := HIA w3 b2
              have bwz := bw2.trans (bw3.mono bw2.size)
              obtain ⟨p1, p2⟩ := HP w3 b2
              clear hC b2 HIA HP c0 c1 c2 c3 c4 c5 c6 c7 c8 c9 c10
              go_wp2_with fail
              go_ret
              exact ⟨rfl, bwz⟩
        · have hk0i : ¬ (0 : Int) < (k : Int) := by omega
          have HY := HX1 (fun h => absurd h hk0)
          clear HX1 wk hkp
          go_wp2_with fail
          refine hC.mono ?_
          rintro e w3 ⟨rfl, b2⟩
          have bw3 := HIA w3 b2
          have p2 := (HP w3 b2).2
          clear hC b2 HIA HP c0 c1 c2 c3 c4 c5 c6 c7 c8 c9 c10
          go_wp2_with fail
          go_roundw
          case rel => exact ⟨k + 1, by omega, by go_num, bw3, HY⟩
          case measure => simp [intOf]; omega
      · obtain rfl : k = m := by omega
        have hki : ¬ (k : Int) < (k : Int) := by omega
        have hrw := hr2.below hI
        have H15 := print_any ao1 k cap1 F wr hrw (by omega) (hTb2.below hI) (hPw2.below hI)
        unfold RetPr at H15
        obtain ⟨N, hN⟩ : ∃ N, (prB F k).length = N := ⟨_, rfl⟩
        rw [hN] at H15
        go_wp2_with fail
        refine H15.mono ?_
        rintro e w3 ⟨ao3, cap3, rfl, ho3, hb3⟩
        have b23 := hI.trans (hb3.mono hI.size)
        have bw3 := bw2.trans (b23.mono bw2.size)
        clear H15
        by_cases h24 : (1024 : Int) < (N : Int)
        · have HL2 := lex_long ao3 N cap3 w3 h24
          clear ho3 hb3 hK hN
          go_wp2_with fail
          refine HL2.mono ?_
          rintro e w4 ⟨rfl, hb4⟩
          have bw4 := bw3.trans (hb4.mono bw3.size)
          clear HL2 hb4
          go_wp2_with fail
          go_ret
          exact ⟨rfl, bw4⟩
        · have hrd := rd_row ho3 hN
          have HL := lex_short ao3 N cap3 _ w3 hrd (by omega)
          obtain ⟨T, hT1, hT2⟩ := back_lex hK.out hr2.ok (by rw [hN]; omega)
          rw [hN] at hT1
          unfold RetLx at HL
          rw [hT1] at HL
          have hlen : ((List.range k).map T).length = k := by simp
          rw [hlen] at HL
          have her : ∀ s, s ∈ (List.range k).map T → s.er = 0 := fun s hs => by
            obtain ⟨i, hi, rfl⟩ := List.mem_map.1 hs
            exact (hT2 i (List.mem_range.1 hi)).1
          clear hT1 hK hb3 hlen
          go_wp2_with fail
          refine HL.mono ?_
          rintro e w4 (⟨ao4, cap4, -, rfl, ho4, hb4⟩ | ⟨s, hs, hse, -⟩)
          · have b24 := b23.trans (hb4.mono b23.size)
            have bw4 := bw3.trans (hb4.mono bw3.size)
            have hk4 := rdk_row ho4 fun i hi => (hT2 i hi).2.1
            have HS := sameAll_any ao4 ao1 k cap4 cap1 _ F w4 hk4 (hr2.below b24) (by omega) fun i hi => (hT2 i hi).2.2.1
            have hpr : prB (fun i => (T i).r) k = prB F k := prB_congr fun i hi => (hT2 i hi).2.2.2
            have ho3' := ownsRow_at ho3 (fun g _ hg => hb4.block g hg)
            clear HL her ho4 hb4 hT2 ho3
            go_wp2_with fail
            refine HS.mono ?_
            rintro e w5 ⟨rfl, hb5⟩
            have b25 := b24.trans (hb5.mono b24.size)
            have bw5 := bw4.trans (hb5.mono bw4.size)
            have ho5 := ownsRow_at ho3' (fun g _ hg => hb5.block g hg)
            have H16 := print_any ao4 k cap4 _ w5 (hk4.below hb5) (by omega) (hTb2.below b25) (hPw2.below b25)
            unfold RetPr at H16
            rw [hpr, hN] at H16
            clear HS hb5 hk4 ho3'
            go_wp2_with fail
            refine H16.mono ?_
            rintro e w6 ⟨ao6, cap6, rfl, ho6, hb6⟩
            have bw6 := bw5.trans (hb6.mono bw5.size)
            have ho7 := ownsRow_at ho5 (fun g _ hg => hb6.block g hg)
            have HE := eq36 (l := (prB F k).map (·.toNat)) (n := N) (by rw [List.length_map]; exact hN) (by rw [← byt_bytes]; exact ho6) (by rw [← byt_bytes]; exact ho7)
            clear H16 hb6 ho5 ho6 ho7
            go_wp2_with fail
            refine HE.mono ?_
            rintro e w7 ⟨rfl, rfl⟩
            clear HE
            go_wp2_with fail
            go_ret
            exact ⟨rfl, bw6⟩
          · exact absurd (her s hs) hse
  · have hse2 : (s.er == 0) = false := by simpa using hse
    clear HL hmay hmap hTm hs hse
    generalize s.er = se at *
    go_wp2_with fail
    refine (begun_any _).mono ?_
    rintro e w2 ⟨rfl, hb2⟩
    have bw2 := hb1.trans (hb2.mono hb1.size)
    go_wp2_with fail
    refine (begun_any _).mono ?_
    rintro e w3 ⟨rfl, hb3⟩
    have bw3 := bw2.trans (hb3.mono bw2.size)
    go_wp2_with fail
    go_ret
    exact ⟨rfl, bw3⟩
set_option maxRecDepth 20000 in
set_option maxHeartbeats 2000000 in
theorem again_walk (ao : Option Addr) (n cap : Nat) (z : Nat → Nat) (w : World) (hr : Rd w ao n z) (hT : Tab w) (hW : Pow w) : Calls Tryd.prog 6 #[.slice ao n cap] w (RetB w true) := by
  by_cases hn : (n : Int) ≤ 1024
  · exact again_short ao n cap z w hr hn hT hW
  · have HL := lex_long ao n cap w (by omega)
    go_enter Tryd.func6, Tryd.ntmps6
    go_wp2_with fail
    refine HL.mono ?_
    rintro e w1 ⟨rfl, hb1⟩
    clear HL
    go_wp2_with fail
    refine (begun_any _).mono ?_
    rintro e w2 ⟨rfl, hb2⟩
    have bw2 := hb1.trans (hb2.mono hb1.size)
    go_wp2_with fail
    refine (begun_any _).mono ?_
    rintro e w3 ⟨rfl, hb3⟩
    have bw3 := bw2.trans (hb3.mono bw2.size)
    go_wp2_with fail
    go_ret
    exact ⟨rfl, bw3⟩
end Go.Proofs.YtkbeiadbolihiaaDoor
