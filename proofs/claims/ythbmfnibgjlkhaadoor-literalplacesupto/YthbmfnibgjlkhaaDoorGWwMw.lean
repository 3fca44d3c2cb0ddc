/- widthsOf: the walk. measure of widths, Widths: the walks. -/
import Derived.Test.YthbmfnibgjlkhaaDoorGWaWoWm
import Derived.Test.YthbmfnibgjlkhaaDoorTail
import Derived.Test.YthbmfnibgjlkhaaDoorGMvEmGrJoRpJk
namespace Go.Proofs.YthbmfnibgjlkhaaDoor
open Go.RowKit
/-- The cells of a slice of widths can be read. -/
def RdW (w : World) (ao : Option Addr) (n : Nat) (f g : Nat → Int) : Prop := 0 < n → ∃ bb off, ao = some ⟨bb, off, none⟩ ∧ bb < w.heap.size ∧ ∀ i, i < n → w.cell? ⟨bb, off + i * 2, none⟩ = some (.int .i64 (f i)) ∧ w.cell? ⟨bb, off + i * 2 + 1, none⟩ = some (.int .i64 (g i))
def RetW (w : World) (x y : Int) (e : Ending) (w' : World) : Prop := e = .returned (.agg #[.int .i64 x, .int .i64 y]) ∧ Below w.heap.size w w'
end Go.Proofs.YthbmfnibgjlkhaaDoor
namespace Go.Proofs.YthbmfnibgjlkhaaDoor
open Go.RowKit
theorem RdW.below {w w' : World} {ao : Option Addr} {n : Nat} {f g : Nat → Int} (h : RdW w ao n f g) (hb : Below w.heap.size w w') : RdW w' ao n f g := by
  intro hn
  obtain ⟨bb, off, e, hlt, hc⟩ := h hn
  refine ⟨bb, off, e, Nat.lt_of_lt_of_le hlt hb.size, fun i hi => ?_⟩
  have := hc i hi
  simpa only [hb.cell (p := ⟨bb, _, none⟩) hlt] using this
/-- Pairs of numbers as cells. -/
def prs (f g : Nat → Int) : Nat → List Value
  | 0 => []
  | n + 1 => prs f g n ++ [.int .i64 (f n), .int .i64 (g n)]
theorem prs_snoc (f g : Nat → Int) (n : Nat) : prs f g (n + 1) = prs f g n ++ [.int .i64 (f n), .int .i64 (g n)] := rfl
theorem prs_length (f g : Nat → Int) : ∀ n, (prs f g n).length = n * 2
  | 0 => rfl
  | n + 1 => by rw [prs, List.length_append, prs_length f g n]; simp; omega
theorem prs_get0 (f g : Nat → Int) : ∀ {n i : Nat}, i < n → (prs f g n)[i * 2]? = some (.int .i64 (f i))
  | 0, i, h => by omega
  | n + 1, i, h => by
    have hl := prs_length f g n
    rw [prs]
    by_cases hi : i < n
    · rw [List.getElem?_append_left (by omega)]; exact prs_get0 f g hi
    · have : i = n := by omega
      subst this
      rw [List.getElem?_append_right (by omega), hl, Nat.sub_self]; rfl
theorem prs_get1 (f g : Nat → Int) : ∀ {n i : Nat}, i < n → (prs f g n)[i * 2 + 1]? = some (.int .i64 (g i))
  | 0, i, h => by omega
  | n + 1, i, h => by
    have hl := prs_length f g n
    rw [prs]
    by_cases hi : i < n
    · rw [List.getElem?_append_left (by omega)]; exact prs_get1 f g hi
    · have : i = n := by omega
      subst this
      rw [List.getElem?_append_right (by omega), hl, show i * 2 + 1 - i * 2 = 1 by omega]; rfl
end Go.Proofs.YthbmfnibgjlkhaaDoor
