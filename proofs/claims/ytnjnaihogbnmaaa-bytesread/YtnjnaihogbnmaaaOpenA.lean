/- A list of calls that came in. -/
import Derived.Test.YtnjnaihogbnmaaaSized
import Derived.Test.YtnjnaihogbnmaaaRl
import Derived.Deep.Slices
namespace Go.Proofs.Ytnjnaihogbnmaaa
open Go.ChangeShapes Go.WideShapes Go.ChangeAt Go.RowKit Go.Joins Go.Deep

theorem listA {α : Type} {l : List α} (h : l.length = 5) : ∃ c0 c1 c2 c3 c4, l = [c0, c1, c2, c3, c4] := by
  match l, h with
  | [c0, c1, c2, c3, c4], _ => exact ⟨c0, c1, c2, c3, c4, rfl⟩
theorem i64_ofA {n : Int} (h : (Lit.int .i64 n).wf = true) : -9223372036854775808 ≤ n ∧ n ≤ 9223372036854775807 := by
  simp [Lit.wf, IntKind.min, IntKind.max, IntKind.signed, IntKind.bits] at h
  omega
theorem u64_ofA {n : Int} (h : (Lit.int .u64 n).wf = true) : 0 ≤ n ∧ n ≤ 18446744073709551615 := by
  simp [Lit.wf, IntKind.min, IntKind.max, IntKind.signed, IntKind.bits] at h
  omega
/-- The five cells of one call. -/
theorem ask_cells {H : Type} {enc : TypeId × Value → H} {W : World} {n : Nat} {cs : List Value} {y : DataW H × List MemPlace} (h : DataW.trod enc Try.prog W 0 (fun _ => true) true n 47 cs = some y) :
    ∃ (d z : Int) (m : Nat) (N E : Int), cs = [.int .i64 d, .int .i64 z, .int .u64 (m : Nat), .int .i64 N, .int .i64 E] ∧ (-9223372036854775808 ≤ z ∧ z ≤ 9223372036854775807) ∧ (-9223372036854775808 ≤ N ∧ N ≤ 9223372036854775807) := by
  obtain ⟨xs, q, _, hx, hl, hlen, hfs⟩ := DataW.trod_struct Try.underlying47 h
  have k47 : Try.prog.cellsOf 47 = 5 := by kernel_rfl
  have k3 : Try.prog.cellsOf 3 = 1 := by kernel_rfl
  have k37 : Try.prog.cellsOf 37 = 1 := by kernel_rfl
  have k29 : Try.prog.cellsOf 29 = 1 := by kernel_rfl
  obtain ⟨v0, v1, v2, v3, v4, rfl⟩ := listA (hl.trans k47)
  obtain ⟨y0, y1, y2, y3, y4, rfl⟩ := listA hlen
  have e0 : DataW.trod enc Try.prog W 0 (fun _ => true) true q 3 [v0] = some y0 := by simpa [k3] using hfs 0 _ rfl
  have e1 : DataW.trod enc Try.prog W 0 (fun _ => true) true q 3 [v1] = some y1 := by simpa [k3] using hfs 1 _ rfl
  have e2 : DataW.trod enc Try.prog W 0 (fun _ => true) true q 37 [v2] = some y2 := by simpa [k37] using hfs 2 _ rfl
  have e3 : DataW.trod enc Try.prog W 0 (fun _ => true) true q 3 [v3] = some y3 := by simpa [k3] using hfs 3 _ rfl
  have e4 : DataW.trod enc Try.prog W 0 (fun _ => true) true q 29 [v4] = some y4 := by simpa [k29] using hfs 4 _ rfl
  obtain ⟨d, h0, _, _⟩ := DataW.trod_int Try.underlying3 e0
  obtain ⟨z, h1, _, wz⟩ := DataW.trod_int Try.underlying3 e1
  obtain ⟨m, h2, _, wm⟩ := DataW.trod_int Try.underlying37 e2
  obtain ⟨N, h3, _, wN⟩ := DataW.trod_int Try.underlying3 e3
  obtain ⟨E, h4, _, _⟩ := DataW.trod_int Try.underlying29 e4
  simp at h0 h1 h2 h3 h4
  subst h0 h1 h2 h3 h4
  have hm := u64_ofA wm
  obtain ⟨mm, rfl⟩ := Int.eq_ofNat_of_zero_le hm.1
  exact ⟨d, z, mm, N, E, rfl, i64_ofA wz, i64_ofA wN⟩
/-- The list of calls, as the walk takes it. -/
theorem rda_of {H : Type} {enc : TypeId × Value → H} {W : World} {n : Nat} {v : Value} {y : DataW H × List MemPlace} (h : DataW.trod enc Try.prog W 0 (fun _ => true) true n 41 [v] = some y) :
    ∃ ao len cap fd fz fm fN fE, v = .slice ao len cap ∧ RdA W ao len fd fz fm fN fE ∧ (len = 0 ∨ ∃ elems spare, y.1 = .slice elems spare ∧ elems.length = len) := by
  have k47 : Try.prog.cellsOf 47 = 5 := by kernel_rfl
  rcases open_slice Try.underlying41 h with ⟨hcs, _⟩ | ⟨a, len, cap, m, q, D, Pl, hcs, _, hlc, _, hm, hx, hel⟩
  · simp at hcs
    exact ⟨none, 0, 0, fun _ => 0, fun _ => 0, fun _ => 0, fun _ => 0, fun _ => 0, hcs, ⟨fun k h => by omega, fun k h => by omega, fun h => by omega⟩, .inl rfl⟩
  · simp at hcs
    subst hcs
    have hml : len ≤ m := by rw [hm]; split <;> omega
    have hall : ∀ k, k < len → ∃ (d z : Int) (mm : Nat) (N E : Int), W.cells? 0 (a.add (k * 5)) 5 = some [.int .i64 d, .int .i64 z, .int .u64 (mm : Nat), .int .i64 N, .int .i64 E] ∧ (-9223372036854775808 ≤ z ∧ z ≤ 9223372036854775807) ∧ (-9223372036854775808 ≤ N ∧ N ≤ 9223372036854775807) := by
      intro k hk
      obtain ⟨cs', hc1, hc2⟩ := hel k (by omega)
      rw [k47] at hc1
      obtain ⟨d, z, mm, N, E, rfl, h1, h2⟩ := ask_cells hc2
      exact ⟨d, z, mm, N, E, hc1, h1, h2⟩
    have pick : ∀ k, ∃ p : Int × Int × Nat × Int × Int, k < len → W.cells? 0 (a.add (k * 5)) 5 = some [.int .i64 p.1, .int .i64 p.2.1, .int .u64 (p.2.2.1 : Nat), .int .i64 p.2.2.2.1, .int .i64 p.2.2.2.2] ∧ (-9223372036854775808 ≤ p.2.1 ∧ p.2.1 ≤ 9223372036854775807) ∧ (-9223372036854775808 ≤ p.2.2.2.1 ∧ p.2.2.2.1 ≤ 9223372036854775807) := by
      intro k
      by_cases hk : k < len
      · obtain ⟨d, z, mm, N, E, h1, h2, h3⟩ := hall k hk
        exact ⟨(d, z, mm, N, E), fun _ => ⟨h1, h2, h3⟩⟩
      · exact ⟨(0, 0, 0, 0, 0), fun h => absurd h hk⟩
    obtain ⟨p, hp⟩ := Classical.axiomOfChoice pick
    refine ⟨some a, len, cap, fun k => (p k).1, fun k => (p k).2.1, fun k => (p k).2.2.1, fun k => (p k).2.2.2.1, fun k => (p k).2.2.2.2, rfl, ⟨fun k hk => (hp k hk).2.1, fun k hk => (hp k hk).2.2, fun h0 => ?_⟩, .inr ⟨_, _, by rw [hx], by simp⟩⟩
    obtain ⟨b, off, spot⟩ := a
    have hc0 := (World.cells?_some (hp 0 h0).1).2.2 0 (by decide)
    have hc1 : W.cell? ⟨b, off, spot⟩ = some (.int .i64 (p 0).1) := by simpa [Addr.add] using hc0
    have hspot : spot = none := by simpa using World.cell?_spot hc1
    subst hspot
    have hbb : b < W.heap.size := cell_lt hc1
    refine ⟨b, off, rfl, hbb, fun k hk => ?_⟩
    have hcells := (World.cells?_some (hp k hk).1).2.2
    have s0 := hcells 0 (by decide)
    have s1 := hcells 1 (by decide)
    have s2 := hcells 2 (by decide)
    have s3 := hcells 3 (by decide)
    have s4 := hcells 4 (by decide)
    by_cases hk0 : k = 0
    · subst hk0
      exact ⟨by simpa [Addr.add] using s0, by simpa [Addr.add] using s1, by simpa [Addr.add] using s2, by simpa [Addr.add] using s3, by simpa [Addr.add] using s4⟩
    · have hk5 : ¬ k * 5 = 0 := by omega
      exact ⟨by simpa [Addr.add, hk5] using s0, by simpa [Addr.add, hk5] using s1, by simpa [Addr.add, hk5] using s2, by simpa [Addr.add, hk5] using s3, by simpa [Addr.add, hk5] using s4⟩
end Go.Proofs.Ytnjnaihogbnmaaa
