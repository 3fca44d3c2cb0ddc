/- The reference's Lex as a whole. ParseBeside: the walk, whatever the patterns. Patterns that came in. -/
import Derived.Test.YtlmmiicibjfcdaaQ41
import Derived.Test.YtlmmiicibjfcdaaQ38
import Derived.Test.YtlmmiicibjfcdaaQ30
import Derived.Test.YtlmmiicibjfcdaaQ20
namespace Go.Proofs.Ytlmmiicibjfcdaa.X
open Go.RowKit Go.Shelf
theorem brackets_any (ao : Option Addr) (n cap op : Nat) (z : Nat → Nat) (w : World) (hr : Rd w ao n z) (hn : (n : Int) ≤ 1024) (ho : op < n) : Calls Try.prog 90 #[.slice ao n cap, .int .i64 (op : Nat)] w (RetO w (tokOf (brkS z n op).z) (brkS z n op).en (brkS z n op).er) := by
  obtain ⟨bb, off, rfl, _, _⟩ := hr.at_ (by omega)
  by_cases h1 : op + 1 < n
  · by_cases hx : z (op + 1) = 94
    · exact rbr_yes bb off n cap op z w hr hn h1 hx
    · exact rbr_no bb off n cap op z w hr hn h1 _ rfl hx
  · exact rbr_end bb off n cap op z w hn ho h1
/-- What the reference's Lex says of a pattern that is not too long. -/
theorem rlex_any (ao : Option Addr) (n cap : Nat) (z : Nat → Nat) (w : World) (hr : Rd w ao n z) (hn : n ≤ 1024) : Calls Try.prog 38 #[.slice ao n cap] w (RetLx w z n) :=
  rlex_short ao n cap z w (by omega) (rfirst_any ao n cap z w (by omega) (fun at_ ha V hV => rone_any ao n cap at_ z V (hr.below hV) (by omega) ha (brkS z n at_) fun _ U hU => brackets_any ao n cap at_ z U ((hr.below hV).below hU) (by omega) ha))
end Go.Proofs.Ytlmmiicibjfcdaa.X
namespace Go.Proofs.Ytlmmiicibjfcdaa
open Go.RowKit
theorem beside_walk (ao bo : Option Addr) (n k cap cbp : Nat) (p q : Nat → Nat) (fl : Fg) (w : World) (hrp : Rd w ao n p) (hrq : Rd w bo k q) : Calls Try.prog 7 #[.slice ao n cap, .slice bo k cbp, fgV fl] w fun e w' => e = .returned (.bool true) ∧ Below w.heap.size w w' := by
  have hr : Rd w bo k (fun i => if i < k then q i else 41) := ⟨fun i hi => by
    rw [if_pos hi]
    exact hrq.small i hi, fun h0 => by
    obtain ⟨b, off, e, hb, hc⟩ := hrq.at_ h0
    exact ⟨b, off, e, hb, fun i hi => by
      rw [if_pos hi]
      exact hc i hi⟩⟩
  exact beside_z ao bo n k cap cbp p _ fl w (by simp) hrp hr (show Hid _ from fun W hW hk => X.rlex_any bo k cbp _ W (hr.below hW) hk)
end Go.Proofs.Ytlmmiicibjfcdaa
namespace Go.Proofs.Ytlmmiicibjfcdaa
open Go.ChangeShapes Go.WideShapes Go.ChangeAt Go.RowKit
theorem rd_of {H : Type} {enc : TypeId × Value → H} {W : World} {n : Nat} {v : Value} {y : DataW H × List MemPlace} (h : DataW.trod enc Try.prog W 0 (fun _ => true) true n 48 [v] = some y) :
    ∃ ao len cap f, v = .slice ao len cap ∧ Rd W ao len f ∧ len ≤ cap ∧ ((ao = none ∧ len = 0 ∧ cap = 0) ∨ ∃ elems spare, y.1 = .slice elems spare ∧ elems.length = len ∧ ∃ a, ao = some a) := by
  rcases open_ints Try.underlying48 Try.underlying5 (by kernel_rfl) h with ⟨hcs, _⟩ | ⟨x, l, c, zs, hcs, hlc, hl, hm, hz, hx, hcell, hwz⟩
  · simp at hcs
    exact ⟨none, 0, 0, fun _ => 0, hcs, ⟨fun i hi => by omega, fun h => by omega⟩, Nat.le_refl _, .inl ⟨rfl, rfl, rfl⟩⟩
  · simp only [if_true] at hz
    simp at hcs
    have hb : ∀ i, i < zs.length → 0 ≤ zs.getD i 0 ∧ zs.getD i 0 < 256 := by
      intro i hi
      have hmem : zs.getD i 0 ∈ zs := by rw [List.getD_eq_getElem?_getD, List.getElem?_eq_getElem hi]; exact List.getElem_mem hi
      have := hwz _ hmem
      generalize zs.getD i 0 = x0 at *
      simp [Lit.wf, IntKind.min, IntKind.max, IntKind.signed, IntKind.bits] at this
      omega
    refine ⟨some x, l, c, fun i => (zs.getD i 0).toNat, hcs, ⟨fun i hi => ?_, fun h0 => ?_⟩, by omega, .inr ⟨_, _, by rw [hx], ?_, _, rfl⟩⟩
    · have := hb i (by omega); omega
    · obtain ⟨b, off, spot⟩ := x
      have hc := hcell 0 (by omega)
      have hspot : spot = none := by simpa [Addr.add] using World.cell?_spot hc
      subst hspot
      have hbb : b < W.heap.size := by have := cell_lt hc; simpa [Addr.add] using this
      refine ⟨b, off, rfl, hbb, fun i hi => ?_⟩
      have hci := hcell i (by omega)
      have e : (((zs.getD i 0).toNat : Nat) : Int) = zs.getD i 0 := Int.toNat_of_nonneg (hb i (by omega)).1
      rw [e]
      by_cases hi0 : i = 0
      · subst hi0; simpa [Addr.add] using hci
      · simpa [Addr.add, hi0] using hci
    · simp [lits]; omega
end Go.Proofs.Ytlmmiicibjfcdaa
