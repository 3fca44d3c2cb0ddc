/- The reference's Union; Word, Space: the walks. -/
import Derived.Test.YtlmmiicibjfcdaaMk
namespace Go.Proofs.Ytlmmiicibjfcdaa
open Go.RowKit
theorem Way2.drew {w wr : World} {p q r s : Nat} (h : Way2 w p q r s wr) : Way2 w p q r s wr.drew := by
  obtain ⟨hx, ⟨a, b, c, d, hy⟩, hb⟩ := h
  exact ⟨hx.drew, ⟨a, b, c, d, hy.drew⟩, hb.drew⟩
end Go.Proofs.Ytlmmiicibjfcdaa
