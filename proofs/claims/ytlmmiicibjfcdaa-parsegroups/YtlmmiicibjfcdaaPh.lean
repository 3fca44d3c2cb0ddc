/- parse: the builder's take of a repeat: the walk. -/
import Derived.Test.YtlmmiicibjfcdaaPg
namespace Go.Proofs.Ytlmmiicibjfcdaa
open Go.RowKit
section
variable (b a0 a1 a2 a3 : Nat) (nt : Bool) (l m : Int) (lz : Bool) (t : Int)
variable {X w W : World} {bp : Nat} {fl : Fg} {s : Bs} {no : Option Addr} {nc g lc : Nat}
set_option maxRecDepth 10000 in
set_option maxHeartbeats 10000000 in
theorem take_7 (h : BM X w bp fl s no nc g lc W) (hl : s.lv ≠ []) (hmx : s.many < 99990) : Calls Try.prog 44 #[bP bp, tokI 7 b a0 a1 a2 a3 nt l m lz t] W (RetBM X w bp fl ((s.put (ndR s.top.2.2 l m lz)).setItem (s.many : Int))) := by
  have h1 := h.below (bel1 W (.cells #[.int .i64 7, .int .u8 (b : Nat), .int .u64 (a0 : Nat), .int .u64 (a1 : Nat), .int .u64 (a2 : Nat), .int .u64 (a3 : Nat), .bool nt, .int .i64 l, .int .i64 m, .bool lz, .int .i64 t] 42))
  have hk1 := h1.kp
  have kT := Cl.new W 42 [.int .i64 7, .int .u8 (b : Nat), .int .u64 (a0 : Nat), .int .u64 (a1 : Nat), .int .u64 (a2 : Nat), .int .u64 (a3 : Nat), .bool nt, .int .i64 l, .int .i64 m, .bool lz, .int .i64 t]
  have HT := top_any h1.base hl
  unfold tokI
  clear h h1
  go_enter Try.func44, Try.ntmps44
  go_wp2_with fail
  refine HT.mono ?_
  rintro e W2 ⟨rfl, h2, _⟩
  have kT2 := h2.kp.cl kT (by decide) (by decide) (by decide)
  obtain ⟨_, _, t2, _, _, _⟩ := h2.top hl
  have t2' : W2.drew.cell? ⟨g, (s.lv.length - 1) * 3 + 2, none⟩ = some (.int .i64 s.top.2.2) := t2
  have c7 : W2.drew.cell? ⟨W.heap.size, 7, none⟩ = some (.int .i64 l) := kT2.cell 7 rfl
  have c8 : W2.drew.cell? ⟨W.heap.size, 8, none⟩ = some (.int .i64 m) := kT2.cell 8 rfl
  have c9 : W2.drew.cell? ⟨W.heap.size, 9, none⟩ = some (.bool lz) := kT2.cell 9 rfl
  have HP := put_any (h2.below (Below.refl _ _).drew) (by omega) (ndR s.top.2.2 l m lz)
  unfold ndV ndR at HP
  dsimp only at HP
  have HF : Hid (∀ W3 no' nc', BM (W.alloc (.cells #[.int .i64 7, .int .u8 (b : Nat), .int .u64 (a0 : Nat), .int .u64 (a1 : Nat), .int .u64 (a2 : Nat), .int .u64 (a3 : Nat), .bool nt, .int .i64 l, .int .i64 m, .bool lz, .int .i64 t] 42)) w bp fl (s.put (ndR s.top.2.2 l m lz)) no' nc' g lc W3 → (W3.cell? ⟨g, (s.lv.length - 1) * 3 + 2, none⟩ = some (.int .i64 s.top.2.2) ∧ W3.frozen? ⟨g, (s.lv.length - 1) * 3 + 2, none⟩ = false) ∧ BM X w bp fl ((s.put (ndR s.top.2.2 l m lz)).setItem (s.many : Int)) no' nc' g lc (W3.setCell ⟨g, (s.lv.length - 1) * 3 + 2, none⟩ (.int .i64 (s.many : Nat)))) := by
    intro W3 no' nc' h5
    have q := h5.top (s := s.put (ndR s.top.2.2 l m lz)) hl
    exact ⟨⟨q.2.2.1, q.2.2.2.1 _⟩, (h5.put0 (s := s.put (ndR s.top.2.2 l m lz)) hl 2 (s.many : Int) (s.top.1, s.top.2.1, (s.many : Int)) rfl (by omega)).from_ hk1⟩
  unfold ndR at HF
  clear HT h2 kT kT2 hk1 t2
  generalize (s.lv.length - 1) * 3 = p at *
  go_wp2_with fail
  go_region_law (go_simp; go_at_call 67; refine HP.mono ?_; rintro e W3 ⟨rfl, no', nc', h5⟩; obtain ⟨⟨x1, x2⟩, h6⟩ := HF.out W3 no' nc' h5; have HB : Hid _ := h6; clear h5 h6)
  all_goals
    go_wp2_with fail
    exact bodyPost_end (v := .tuple #[]) (by simp [results, Try.results44, go_sem]) rfl ⟨rfl, _, _, _, _, HB.out⟩
end
end Go.Proofs.Ytlmmiicibjfcdaa
