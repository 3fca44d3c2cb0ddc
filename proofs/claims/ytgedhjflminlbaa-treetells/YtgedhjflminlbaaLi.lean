/- one, live: the walks. -/
import Derived.Test.YtgedhjflminlbaaCe
namespace Go.Proofs.Ytgedhjflminlbaa
open Go.RowKit
def byteN (x : Int) : Nd := ⟨2, 0, x, 0, 0, 0, 0, 0, 0, false⟩
theorem leafN_byte (x : Int) : leafN (byteN x) = byteN x := by simp [leafN, byteN]
theorem byte_ok (x : Int) : (Tre.leaf (byteN x)).ok = true := by simp [Tre.ok, Tre.lf, byteN, Nd.eq]
theorem snd_byte (x : Int) : snd (fun _ => byteN x) 1 = .leaf (byteN x) := by
  have := treeOf_nodes (.leaf (byteN x)) (n := 1) (fun _ => byteN x) rfl (byte_ok x) (by simp [Tre.size]) (fun p hp => by
    have : p = 0 := by omega
    subst this; rfl)
  simp [snd, this]
theorem snd_nodes (t : Tre) (ho : t.ok = true) (hs : t.size ≤ 2048) : snd (nodes t) t.size = t := by
  have := treeOf_nodes t (n := t.size) (nodes t) rfl ho hs (fun p _ => rfl)
  simp [snd, this]
set_option maxRecDepth 10000 in
set_option maxHeartbeats 400000 in
theorem one_97 (w : World) : Calls Try.prog 32 #[.int .u8 97] w (RetT w 1 (fun _ => byteN 8589934592)) := by
  have HL : Hid (∀ W, Calls Try.prog 11 #[.agg #[.int .i64 2, .int .u64 0, .int .u64 8589934592, .int .u64 0, .int .u64 0, .int .i64 0, .int .i64 0, .int .i64 0, .int .i64 0, .bool false]] W (RetT W 1 (fun _ => byteN 8589934592))) := fun W => leafN_byte 8589934592 ▸ leaf_any (byteN 8589934592) W
  have k0 := (Cl.new w 24 [.slice none 0 0]).alloc (.cells #[.int .i64 2, .int .u64 0, .int .u64 8589934592, .int .u64 0, .int .u64 0, .int .i64 0, .int .i64 0, .int .i64 0, .int .i64 0, .bool false] 29)
  have hB := below2 w (.cells #[.slice none 0 0] 24) (.cells #[.int .i64 2, .int .u64 0, .int .u64 8589934592, .int .u64 0, .int .u64 0, .int .i64 0, .int .i64 0, .int .i64 0, .int .i64 0, .bool false] 29)
  go_enter Try.func32, Try.ntmps32
  go_wp2_with (go_at_call 11; refine (HL.out _).mono ?_; rintro e w2 ⟨ao2, c2, rfl, ho2, hb2⟩; have d3 := k0.below hb2; obtain ⟨d31, d32⟩ := d3.one)
  have dd := (d3.set 0 (.slice ao2 1 c2)).cell 0 rfl
  have ho3 : OwN (w2.setCell ⟨w.heap.size, 0, none⟩ (.slice ao2 1 c2)) w.heap.size ao2 1 c2 (fun _ => byteN 8589934592) := by
    refine ownsRow_base (ownsRow_at ho2 fun g' h1 h2 => ?_) (by simp; omega)
    simp only [World.size_alloc] at h1
    rw [Below.heap_setCell _ _ _ _ (by simp; omega)]
  exact bodyPost_ret (by simp [results, Try.results32, go_sem, dd]) rfl ⟨ao2, c2, rfl, ho3, (hB.trans (hb2.mono (by simp; omega))).setCell (p := ⟨w.heap.size, 0, none⟩) (Nat.le_refl _) _⟩
set_option maxRecDepth 10000 in
set_option maxHeartbeats 400000 in
theorem one_98 (w : World) : Calls Try.prog 32 #[.int .u8 98] w (RetT w 1 (fun _ => byteN 17179869184)) := by
  have HL : Hid (∀ W, Calls Try.prog 11 #[.agg #[.int .i64 2, .int .u64 0, .int .u64 17179869184, .int .u64 0, .int .u64 0, .int .i64 0, .int .i64 0, .int .i64 0, .int .i64 0, .bool false]] W (RetT W 1 (fun _ => byteN 17179869184))) := fun W => leafN_byte 17179869184 ▸ leaf_any (byteN 17179869184) W
  have k0 := (Cl.new w 24 [.slice none 0 0]).alloc (.cells #[.int .i64 2, .int .u64 0, .int .u64 17179869184, .int .u64 0, .int .u64 0, .int .i64 0, .int .i64 0, .int .i64 0, .int .i64 0, .bool false] 29)
  have hB := below2 w (.cells #[.slice none 0 0] 24) (.cells #[.int .i64 2, .int .u64 0, .int .u64 17179869184, .int .u64 0, .int .u64 0, .int .i64 0, .int .i64 0, .int .i64 0, .int .i64 0, .bool false] 29)
  go_enter Try.func32, Try.ntmps32
  go_wp2_with (go_at_call 11; refine (HL.out _).mono ?_; rintro e w2 ⟨ao2, c2, rfl, ho2, hb2⟩; have d3 := k0.below hb2; obtain ⟨d31, d32⟩ := d3.one)
  have dd := (d3.set 0 (.slice ao2 1 c2)).cell 0 rfl
  have ho3 : OwN (w2.setCell ⟨w.heap.size, 0, none⟩ (.slice ao2 1 c2)) w.heap.size ao2 1 c2 (fun _ => byteN 17179869184) := by
    refine ownsRow_base (ownsRow_at ho2 fun g' h1 h2 => ?_) (by simp; omega)
    simp only [World.size_alloc] at h1
    rw [Below.heap_setCell _ _ _ _ (by simp; omega)]
  exact bodyPost_ret (by simp [results, Try.results32, go_sem, dd]) rfl ⟨ao2, c2, rfl, ho3, (hB.trans (hb2.mono (by simp; omega))).setCell (p := ⟨w.heap.size, 0, none⟩) (Nat.le_refl _) _⟩
set_option maxRecDepth 10000 in
set_option maxHeartbeats 400000 in
theorem one_99 (w : World) : Calls Try.prog 32 #[.int .u8 99] w (RetT w 1 (fun _ => byteN 34359738368)) := by
  have HL : Hid (∀ W, Calls Try.prog 11 #[.agg #[.int .i64 2, .int .u64 0, .int .u64 34359738368, .int .u64 0, .int .u64 0, .int .i64 0, .int .i64 0, .int .i64 0, .int .i64 0, .bool false]] W (RetT W 1 (fun _ => byteN 34359738368))) := fun W => leafN_byte 34359738368 ▸ leaf_any (byteN 34359738368) W
  have k0 := (Cl.new w 24 [.slice none 0 0]).alloc (.cells #[.int .i64 2, .int .u64 0, .int .u64 34359738368, .int .u64 0, .int .u64 0, .int .i64 0, .int .i64 0, .int .i64 0, .int .i64 0, .bool false] 29)
  have hB := below2 w (.cells #[.slice none 0 0] 24) (.cells #[.int .i64 2, .int .u64 0, .int .u64 34359738368, .int .u64 0, .int .u64 0, .int .i64 0, .int .i64 0, .int .i64 0, .int .i64 0, .bool false] 29)
  go_enter Try.func32, Try.ntmps32
  go_wp2_with (go_at_call 11; refine (HL.out _).mono ?_; rintro e w2 ⟨ao2, c2, rfl, ho2, hb2⟩; have d3 := k0.below hb2; obtain ⟨d31, d32⟩ := d3.one)
  have dd := (d3.set 0 (.slice ao2 1 c2)).cell 0 rfl
  have ho3 : OwN (w2.setCell ⟨w.heap.size, 0, none⟩ (.slice ao2 1 c2)) w.heap.size ao2 1 c2 (fun _ => byteN 34359738368) := by
    refine ownsRow_base (ownsRow_at ho2 fun g' h1 h2 => ?_) (by simp; omega)
    simp only [World.size_alloc] at h1
    rw [Below.heap_setCell _ _ _ _ (by simp; omega)]
  exact bodyPost_ret (by simp [results, Try.results32, go_sem, dd]) rfl ⟨ao2, c2, rfl, ho3, (hB.trans (hb2.mono (by simp; omega))).setCell (p := ⟨w.heap.size, 0, none⟩) (Nat.le_refl _) _⟩
/-- ab|c. -/
def abT : Tre := .two 3 (.leaf (byteN 8589934592)) (.leaf (byteN 17179869184))
def abcT : Tre := .two 4 abT (.leaf (byteN 34359738368))
theorem ab_ok : abT.ok = true := by simp [abT, Tre.ok, Tre.lf, byteN, Nd.eq]
theorem abc_ok : abcT.ok = true := by simp [abcT, abT, Tre.ok, Tre.lf, byteN, Nd.eq]
theorem abc_wl : wl abcT = 1 := by simp [abcT, abT, wl, byteN, pl]; decide
theorem abc_wg : wg abcT = 2 := by simp [abcT, abT, wg, byteN, pl, gr]; decide
theorem abc_wt : wt abcT = 3 := by simp [abcT, abT, wt, byteN, pl]; decide
theorem abc_chk : chkE (nodes abcT) 5 = 0 := by
  have := treeOf_nodes abcT (n := 5) (nodes abcT) rfl abc_ok (by decide) (fun p _ => rfl)
  rw [chkE, this]
  simp [abcT, abT, anc, byteN]
set_option maxRecDepth 10000 in
set_option maxHeartbeats 2000000 in
theorem live_any (w : World) : Calls Try.prog 9 #[] w (RetBo w true) := by
  have HA := one_97
  have HB := one_98
  have HC := one_99
  have HJ1 : Hid (∀ W a c b d, RdN W a 1 (fun _ => byteN 8589934592) → RdN W b 1 (fun _ => byteN 17179869184) → 1 ≤ c → 1 ≤ d → Calls Try.prog 13 #[.int .i64 3, .agg #[.slice a 1 c], .agg #[.slice b 1 d]] W (RetT W 3 (nodes abT))) := fun W a c b d h1 h2 h3 h4 => by
    have := join_yes 3 a b 1 1 c d _ _ W (.inl rfl) h1 h2 (by decide) (by decide) h3 h4
    rw [snd_byte, snd_byte] at this
    exact this
  have HJ2 : Hid (∀ W a c b d, RdN W a 3 (nodes abT) → RdN W b 1 (fun _ => byteN 34359738368) → 3 ≤ c → 1 ≤ d → Calls Try.prog 13 #[.int .i64 4, .agg #[.slice a 3 c], .agg #[.slice b 1 d]] W (RetT W 5 (nodes abcT))) := fun W a c b d h1 h2 h3 h4 => by
    have := join_yes 4 a b 3 1 c d _ _ W (.inr rfl) h1 h2 (by decide) (by decide) h3 h4
    rw [show snd (nodes abT) 3 = abT from snd_nodes abT ab_ok (by decide), snd_byte] at this
    exact this
  have hsn : snd (nodes abcT) 5 = abcT := snd_nodes abcT abc_ok (by decide)
  have HW : Hid (∀ W a c, RdN W a 5 (nodes abcT) → 5 ≤ c → Calls Try.prog 21 #[.agg #[.slice a 5 c]] W fun e w' => e = .returned (.tuple #[.int .i64 1, .int .i64 2]) ∧ Below W.heap.size W w') := fun W a c h1 h2 => by
    have := widths_any a 5 c _ W h1 (by decide) h2
    rw [hsn, abc_wl, abc_wg] at this
    exact this
  have HT : Hid (∀ W a c, RdN W a 5 (nodes abcT) → 5 ≤ c → Calls Try.prog 29 #[.agg #[.slice a 5 c]] W (RetI W 3)) := fun W a c h1 h2 => by
    have := weight_any a 5 c _ W h1 (by decide) h2
    rw [hsn, abc_wt] at this
    exact this
  have HK : Hid (∀ W a c, RdN W a 5 (nodes abcT) → Calls Try.prog 27 #[.agg #[.slice a 5 c]] W (RetI W 0)) := fun W a c h1 => by
    have := check_any a 5 c _ W h1 (by decide)
    rw [abc_chk] at this
    exact this
  have m1 : Hid True := trivial
  go_enter Try.func9, Try.ntmps9
  go_wp2_with (first | (go_at_call 32; first | (refine (HA _).mono ?_; rintro e w1 ⟨a1, c1, rfl, o1, b1⟩; clear HA) | (refine (HB _).mono ?_; rintro e w2 ⟨a2, c2, rfl, o2, b2⟩; clear HB) | (refine (HC _).mono ?_; rintro e w4 ⟨a4, c4, rfl, o4, b4⟩; clear HC)) | (go_at_call 13; first | (clear m1; refine (HJ1.out _ _ _ _ _ (o1.rd.below b2) o2.rd (ownsRow_cap o1) (ownsRow_cap o2)).mono ?_; rintro e w3 ⟨a3, c3, rfl, o3, b3⟩) | (refine (HJ2.out _ _ _ _ _ (o3.rd.below b4) o4.rd (ownsRow_cap o3) (ownsRow_cap o4)).mono ?_; rintro e w5 ⟨a5, c5, rfl, o5, b5⟩)))
  have hB5 : Below w.heap.size w w5 := (((b1.trans (b2.mono b1.size)).trans (b3.mono (Nat.le_trans b1.size b2.size))).trans (b4.mono (Nat.le_trans b1.size (Nat.le_trans b2.size b3.size)))).trans (b5.mono (Nat.le_trans b1.size (Nat.le_trans b2.size (Nat.le_trans b3.size b4.size))))
  have rd5 := o5.rd.below (below1 w5 (.cells #[.slice a5 5 c5] 24))
  have cc5 := ownsRow_cap o5
  have k5 := Cl.new w5 24 [.slice a5 5 c5]
  obtain ⟨g, rfl, hgl, _, hc, _⟩ := o5.cells (by decide)
  have n2 := hc 2 0 _ (by decide) (by decide) rfl
  have n4 := hc 4 5 _ (by decide) (by decide) rfl
  have n5 := hc 4 6 _ (by decide) (by decide) rfl
  have hB6 : Below w.heap.size w (w5.alloc (.cells #[.slice (some ⟨g, 0, none⟩) 5 c5] 24)) := hB5.alloc hB5.size _
  rw [← (below1 w5 (.cells #[.slice (some ⟨g, 0, none⟩) 5 c5] 24)).cell (p := ⟨g, _, none⟩) hgl] at n2 n4 n5
  have hgl' : g < (w5.alloc (.cells #[.slice (some ⟨g, 0, none⟩) 5 c5] 24)).heap.size := by simp; omega
  clear o1 o2 o3 o4 o5 b1 b2 b3 b4 b5 hc HJ1 HJ2 hB5 hgl
  refine (HW.out _ _ _ rd5 cc5).mono ?_
  rintro e w6 ⟨rfl, b6⟩
  have k6 := k5.below b6
  have d6 := k6.cell 0 rfl
  rw [← b6.cell (p := ⟨g, _, none⟩) hgl'] at n2 n4 n5
  have hs6 := b6.size
  have q2 : w6.cell? ⟨g, 20, none⟩ = some (.int .i64 3) := n2
  have q4 : w6.cell? ⟨g, 45, none⟩ = some (.int .i64 2) := n4
  have q5 : w6.cell? ⟨g, 46, none⟩ = some (.int .i64 3) := n5
  clear n2 n4 n5
  go_wp2_with (first | (go_at_call 27; refine (HK.out _ _ _ (rd5.below b6)).mono ?_; rintro e w7 ⟨rfl, b7⟩; have d7 := (k6.below b7).cell 0 rfl) | (go_at_call 29; refine (HT.out _ _ _ ((rd5.below b6).below b7) cc5).mono ?_; rintro e w8 ⟨rfl, b8⟩))
  go_ret
  exact ⟨rfl, ((hB6.trans (b6.mono hB6.size)).trans (b7.mono (Nat.le_trans hB6.size b6.size))).trans (b8.mono (Nat.le_trans hB6.size (Nat.le_trans b6.size b7.size)))⟩
end Go.Proofs.Ytgedhjflminlbaa
