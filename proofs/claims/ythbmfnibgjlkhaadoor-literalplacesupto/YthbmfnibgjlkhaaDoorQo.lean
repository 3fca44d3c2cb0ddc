/- Literals, bytes and a place that came in. -/
import Derived.Test.YthbmfnibgjlkhaaDoorOc
import Derived.Test.YthbmfnibgjlkhaaDoorGPcPdPe
namespace Go.Proofs.YthbmfnibgjlkhaaDoor
open Go.ChangeShapes Go.WideShapes Go.ChangeAt Go.RowKit Go.Joins Go.Deep K
set_option maxRecDepth 20000
theorem bulk_one {H : Type} (d : DataW H) : 1 ≤ Rows.uptoBulk d := by
  cases d with
  | lit x => cases x <;> simp [Rows.uptoBulk]
  | _ => simp [Rows.uptoBulk]
theorem bulk_length {H : Type} (l : List (DataW H)) : l.length ≤ Rows.uptoBulkAll l := by
  induction l with
  | nil => simp [Rows.uptoBulkAll]
  | cons d l ih =>
    have := bulk_one d
    simp [Rows.uptoBulkAll]
    omega
theorem bulk_slice {H : Type} (e s : List (DataW H)) : e.length ≤ Rows.uptoBulk (.slice e s) := by
  have := bulk_length e
  simp only [Rows.uptoBulk]
  omega
/-- A literal that came in. -/
theorem lits_of {H : Type} {enc : TypeId × Value → H} {W : World} {n : Nat} {v : Value} {y : DataW H × List MemPlace} (h : DataW.trod enc Tryd.prog W 0 (fun _ => true) true n 34 [v] = some y) :
    ∃ ao A cap, v = .slice ao A.length cap ∧ RdL W ao A ∧ Shp ao A.length cap ∧ (∀ x ∈ A, x.1 < 256) ∧ A.length ≤ Rows.uptoBulk y.1 := by
  have k26 : Tryd.prog.cellsOf 26 = 2 := by kernel_rfl
  rcases open_slice Tryd.underlying34 h with ⟨hcs, _⟩ | ⟨a, len, cap, m, q, D, Pl, hcs, _, hlc, _, hm, hx, hel⟩
  · simp at hcs
    exact ⟨none, [], 0, hcs, fun h => by simp at h, .inl ⟨rfl, rfl, rfl⟩, fun x h => by simp at h, Nat.zero_le _⟩
  · simp at hcs
    subst hcs
    have hml : len ≤ m := by rw [hm]; split <;> omega
    have pick : ∀ k, ∃ x : Nat × Bool, k < len → W.cells? 0 (a.add (k * 2)) 2 = some [.int .u8 (x.1 : Nat), .bool x.2] ∧ x.1 < 256 := by
      intro k
      by_cases hk : k < len
      · obtain ⟨cs', hc1, hc2⟩ := hel k (by omega)
        rw [k26] at hc1
        obtain ⟨x, rfl, hb⟩ := letter_cells hc2
        exact ⟨x, fun _ => ⟨hc1, hb⟩⟩
      · exact ⟨(0, false), fun h => absurd h hk⟩
    obtain ⟨F, hF⟩ := Classical.axiomOfChoice pick
    have hlen : ((List.range len).map F).length = len := by simp
    refine ⟨some a, (List.range len).map F, cap, by rw [hlen], fun h0 => ?_, .inr ⟨a, rfl⟩, fun x hx => ?_, ?_⟩
    · rw [hlen] at h0
      obtain ⟨b, off, spot⟩ := a
      have hc0 := (World.cells?_some (hF 0 h0).1).2.2 0 (by decide)
      have hc1 : W.cell? ⟨b, off, spot⟩ = some (.int .u8 ((F 0).1 : Nat)) := by simpa [Addr.add] using hc0
      have hspot : spot = none := by simpa using World.cell?_spot hc1
      subst hspot
      have hbb : b < W.heap.size := cell_lt hc1
      refine ⟨b, off, rfl, hbb, fun k x hkx => ?_⟩
      rw [List.getElem?_map] at hkx
      have hk : k < len := by
        rcases Nat.lt_or_ge k len with h | h
        · exact h
        · rw [List.getElem?_eq_none (by simpa using h)] at hkx; cases hkx
      rw [List.getElem?_range hk] at hkx
      obtain rfl : F k = x := by simpa using hkx
      have hcells := (World.cells?_some (hF k hk).1).2.2
      have s0 := hcells 0 (by decide)
      have s1 := hcells 1 (by decide)
      by_cases hk0 : k = 0
      · subst hk0
        exact ⟨by simpa [Addr.add] using s0, by simpa [Addr.add] using s1⟩
      · have hk5 : ¬ k * 2 = 0 := by omega
        exact ⟨by simpa [Addr.add, hk5] using s0, by simpa [Addr.add, hk5, Nat.add_assoc] using s1⟩
    · obtain ⟨k, hk, rfl⟩ := List.mem_map.1 hx
      exact (hF k (List.mem_range.1 hk)).2
    · rw [hx]
      refine Nat.le_trans ?_ (bulk_slice _ _)
      simp
/-- Bytes that came in, their bulk. -/
theorem bytes_of {H : Type} {enc : TypeId × Value → H} {W : World} {n : Nat} {v : Value} {y : DataW H × List MemPlace} (h : DataW.trod enc Tryd.prog W 0 (fun _ => true) true n 35 [v] = some y) :
    ∃ ao len cap f, v = .slice ao len cap ∧ Rd W ao len f ∧ len ≤ cap ∧ Shp ao len cap ∧ len ≤ Rows.uptoBulk y.1 := by
  obtain ⟨ao, len, cap, f, rfl, hr, hc⟩ := rd_of h
  rcases open_ints Tryd.underlying35 Tryd.underlying5 (by kernel_rfl) h with ⟨hcs, _⟩ | ⟨x, l, c, zs, hcs, hlc, hl, hm, hz, hx, hcell, hwz⟩
  · simp at hcs
    obtain ⟨rfl, rfl, rfl⟩ := hcs
    exact ⟨none, 0, 0, f, rfl, hr, hc, .inl ⟨rfl, rfl, rfl⟩, Nat.zero_le _⟩
  · simp at hcs
    obtain ⟨rfl, rfl, rfl⟩ := hcs
    refine ⟨some x, len, cap, f, rfl, hr, hc, .inr ⟨x, rfl⟩, ?_⟩
    rw [hx]
    refine Nat.le_trans ?_ (bulk_slice _ _)
    simp only [if_true] at hz
    simp [lits]
    omega
/-- What the law is handed. -/
theorem where_of {H : Type} {enc : TypeId × Value → H} {W : World} {b0 : Nat} {v : Value} {dd : DataW H} {p : List MemPlace} (hv : Value.okWide Tryd.prog W .any b0 37 v) (h : DataW.Trod enc Tryd.prog W 0 (fun _ => true) true 37 v dd p) (hb : Rows.uptoBulk dd ≤ 1048576) :
    ∃ la ca A lb cb B bo m bc f at', v = .agg #[.slice la A.length ca, .slice lb B.length cb, .slice bo m bc, .int .i64 at'] ∧ RdL W la A ∧ RdL W lb B ∧ Rd W bo m f ∧ (∀ x ∈ A, x.1 < 256) ∧ A.length ≤ 1048576 ∧ B.length ≤ 1048576 ∧ m ≤ 1048576 ∧ Shp la A.length ca ∧ Shp bo m bc ∧ m ≤ bc := by
  obtain ⟨fuel, hf⟩ := h
  obtain ⟨xs, q, _, hx, hl, hlen, hfs⟩ := DataW.trod_struct Tryd.underlying37 hf
  have k37 : Tryd.prog.cellsOf 37 = 4 := by kernel_rfl
  have k34 : Tryd.prog.cellsOf 34 = 1 := by kernel_rfl
  have k35 : Tryd.prog.cellsOf 35 = 1 := by kernel_rfl
  have k3 : Tryd.prog.cellsOf 3 = 1 := by kernel_rfl
  obtain ⟨v0, v1, v2, v3, hcs⟩ := list4 (hl.trans k37)
  rw [hcs] at hfs
  obtain ⟨y0, y1, y2, y3, rfl⟩ := list4 hlen
  have e0 : DataW.trod enc Tryd.prog W 0 (fun _ => true) true q 34 [v0] = some y0 := by simpa [k34] using hfs 0 _ rfl
  have e1 : DataW.trod enc Tryd.prog W 0 (fun _ => true) true q 34 [v1] = some y1 := by simpa [k34] using hfs 1 _ rfl
  have e2 : DataW.trod enc Tryd.prog W 0 (fun _ => true) true q 35 [v2] = some y2 := by simpa [k35] using hfs 2 _ rfl
  have e3 : DataW.trod enc Tryd.prog W 0 (fun _ => true) true q 3 [v3] = some y3 := by simpa [k3] using hfs 3 _ rfl
  obtain ⟨la, A, ca, rfl, hA, sA, bA, nA⟩ := lits_of e0
  obtain ⟨lb, B, cb, rfl, hB, _, _, nB⟩ := lits_of e1
  obtain ⟨bo, m, bc, f, rfl, hr, hc, sh, nm⟩ := bytes_of e2
  obtain ⟨at', h3, _, _⟩ := DataW.trod_int Tryd.underlying3 e3
  simp at h3
  subst h3
  have hd : dd = .agg [y0.1, y1.1, y2.1, y3.1] := by
    have := congrArg Prod.fst hx
    simpa using this
  rw [hd] at hb
  simp only [Rows.uptoBulk, Rows.uptoBulkAll] at hb
  refine ⟨la, ca, A, lb, cb, B, bo, m, bc, f, at', ?_, hA, hB, hr, bA, by omega, by omega, by omega, sA, sh, hc⟩
  simp only [Value.okWide, Tryd.underlying37] at hv
  obtain ⟨cs, rfl, hsz, _⟩ := hv
  simp [Value.cells] at hcs
  congr 1
  exact Array.toList_inj.1 hcs
end Go.Proofs.YthbmfnibgjlkhaaDoor
