/- The reference's Copy and With: the walks. -/
import Derived.Test.YtclgefpkcagbfaaDoorRn
import Derived.Deep.AppendLies
namespace Go.Proofs.YtclgefpkcagbfaaDoor
open Go.RowKit
attribute [local go_sem ↓] Go.wp_at_zero Go.wp_at_succ
theorem rd_news {w : World} {b off len : Nat} {f : Nat → Nat} (hc : ∀ i, i < len → w.cell? ⟨b, off + i, none⟩ = some (.int .u64 (f i : Nat))) :
    ∀ j u, ((List.range len).map fun i => Value.int .u64 (f i : Nat))[j]? = some u → w.cell? ((⟨b, off, none⟩ : Addr).add j) = some u := by
  intro j u hj
  have hjl : j < len := by
    by_cases h : j < len
    · exact h
    · rw [List.getElem?_eq_none (by simp; omega)] at hj; simp at hj
  simp only [List.getElem?_map, List.getElem?_range hjl, Option.map_some, Option.some.injEq] at hj
  subst hj
  have hcj := hc j hjl
  by_cases h0 : j = 0
  · subst h0; simpa [Addr.add] using hcj
  · simpa [Addr.add, h0] using hcj
theorem ownL_of_row {B : Nat} {w : World} {g len cap : Nat} {f : Nat → Nat} (h : w.ownsRow B 42 1 (.slice (some ⟨g, 0, none⟩) len cap) len ((List.range len).map fun i => Value.int .u64 (f i : Nat))) (hs : ∀ i, i < len → f i < 18446744073709551616) (hlt : g < w.heap.size) (hB : B ≤ g) :
    OwnL B w (some ⟨g, 0, none⟩) len f := by
  refine ⟨hs, fun a e => ?_, fun hl => ?_⟩
  · obtain rfl := Option.some.inj e; exact ⟨hlt, hB⟩
  · rcases h.2 with ⟨h', _⟩ | ⟨g', cap', cur, h', _, hg, hnc, _, hsz, htake⟩
    · simp at h'
    · simp only [Value.slice.injEq, Option.some.injEq, Addr.mk.injEq, and_true, true_and] at h'
      obtain ⟨rfl, rfl⟩ := h'
      refine ⟨g, cur, rfl, hg, by omega, fun i hi => ?_⟩
      have e : cur.toList[i]? = ((List.range len).map fun i => Value.int .u64 (f i : Nat))[i]? := by
        rw [← htake, List.getElem?_take, if_pos (by omega)]
      rw [← Array.getElem?_toList, e]
      simp [hi]

/-- An append of nothing to a nil slice, at a step of a region. -/
theorem step_append_nothing {w : World} {ops : Array Oper} {o : Oper} {a : Act} {K : Act → World → Prop} {Q : Exit → Act → World → Prop} {E : Prop} (hgd : o.guard = none) (s x : Operand)
    (ho : o.op = .call { callee := .builtin .append, args := #[s, x], argTypes := #[22, 22] }) (hs : a.eval s = .slice none 0 0) (ad : Addr) (c : Nat) (hx : a.eval x = .slice (some ad) 0 c)
    (h : ∀ w', w.grownBy w' none → K (a.put o.dst (.slice none 0 0)) w') :
    if Region.wanted o (yielded ops a.tmps) = true then Oper.wp Tryd.prog o a w K Q else E := by
  have hw : Region.wanted o (yielded ops a.tmps) = true := by simp [Region.wanted, hgd]
  rw [if_pos hw]
  obtain ⟨i0, hi, hz0, hz1, hz2⟩ := info_parts Tryd.info42
  refine wp_append_own w s x 22 ho w.heap.size 42 i0 (.int .u64 0) 1 8 Tryd.underlying22 hi hz0 hz1 hz2 rfl (by decide) (.slice none 0 0) 0 [] hs (World.ownsRow_nil _ _ _ _) ad 0 c [] hx rfl (fun j u hj => by simp at hj) (fun u hu => by simp at hu) (by unfold maxLen; omega) (by omega) (Nat.le_refl _) ?_
  intro v' w' _ hgr hiff
  rw [hiff.2 ⟨rfl, rfl⟩]
  exact h w' hgr

end Go.Proofs.YtclgefpkcagbfaaDoor
