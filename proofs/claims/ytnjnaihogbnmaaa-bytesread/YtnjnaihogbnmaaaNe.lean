/- New of no numbers; the reader's Set: the walks. -/
import Derived.Test.YtnjnaihogbnmaaaBi
import Derived.Deep.RegionHeld3
namespace Go.Proofs.Ytnjnaihogbnmaaa
open Go.RowKit
/-- What New of no numbers answers: the empty set, in words of its own. -/
def RetNew (w : World) (n : Nat) (e : Ending) (w' : World) : Prop :=
  ∃ ao cap, e = .returned (.tuple #[.agg #[.int .i64 (n : Nat), .slice ao ((n + 63) / 64) cap], .int .i64 0]) ∧ OwnU w.heap.size w' ao ((n + 63) / 64) (fun _ => 0) ∧ Below w.heap.size w w'
set_option maxHeartbeats 800000 in
theorem new_none (n : Nat) (w : World) (hn : n ≤ 8192) :
    Calls Try.prog 48 #[.int .i64 (n : Nat), .slice none 0 0] w (RetNew w n) := by
  have hd : decide ((n : Int) < 0) = false := by simp
  have hd2 : decide (8192 < (n : Int)) = false := by simp; omega
  go_enter Try.func48, Try.ntmps48
  go_wp2_with fail
  refine (empty_any n _ hn).mono ?_
  rintro e w1 ⟨ao, len, cap, rfl, ho, hlen, hb⟩
  have b0 := (Box.new w (.int .i64 0) (.slice none 0 0)).below hb
  have hB : Below w.heap.size w w1 := ((Below.refl _ _).alloc (Nat.le_refl _) _).trans (hb.mono (by simp))
  have ho1 : OwnU (w.heap.size + 1) w1 ao len (fun _ => 0) := by simpa using ho
  have hlt0 := b0.lt
  have hao : ∀ a, ao = some a → w.heap.size + 1 ≤ a.block ∧ a.block < w1.heap.size := fun a e => ⟨(ho1.lt a e).2, (ho1.lt a e).1⟩
  have HL : Hid (len = (n + 63) / 64) := hlen
  clear hlen ho hb
  go_wp2_with fail
  go_loopw [20] (fun i wr => i = .int .i64 0 ∧ wr = w1.alloc (.cells #[.int .i64 (n : Nat), .slice ao len cap] 25)) (fun _ _ => 0)
  case atStart => exact ⟨rfl, rfl⟩
  case round =>
    obtain ⟨rfl, rfl⟩ := hrel
    have b2 := b0.alloc (.cells #[.int .i64 (n : Nat), .slice ao len cap] 25)
    have b1 := Box.new w1 (.int .i64 (n : Nat)) (.slice ao len cap)
    obtain ⟨p0, p1, p2, p3⟩ := b1.cells
    obtain ⟨q0, q1, q2, q3⟩ := b2.cells
    have hB2 : Below w.heap.size w (w1.alloc (.cells #[.int .i64 (n : Nat), .slice ao len cap] 25)) := hB.alloc hB.size _
    have hof := ho1.alloc (.cells #[.int .i64 (n : Nat), .slice ao len cap] 25)
    have hne2 : w.heap.size ≠ w1.heap.size := by omega
    clear b1 b2 b0 ho1
    generalize w1.alloc (.cells #[.int .i64 (n : Nat), .slice ao len cap] 25) = w2 at *
    go_wp2
    obtain rfl := HL.out
    refine bodyPost_ret (v := .tuple #[.agg #[.int .i64 n, .slice ao ((n + 63) / 64) cap], .int .i64 0]) (by simp [results, Try.results48, go_sem, q0, q1]) rfl ⟨_, _, rfl, ?_, ?_⟩
    · refine OwnU.but (ax := some ⟨w.heap.size, 0, none⟩) (hof.mono (by omega)) (((But.refl _ _).setCell (p := ⟨w.heap.size, 0, none⟩) (.inl ⟨_, rfl, rfl⟩) _).setCell (p := ⟨w.heap.size, 1, none⟩) (.inl ⟨_, rfl, rfl⟩) _) ?_
      intro a c ea ec
      obtain rfl := Option.some.inj ec
      have := hao a ea
      show w.heap.size ≠ a.block
      omega
    · exact (hB2.setCell (p := ⟨w.heap.size, 0, none⟩) (by simp) _).setCell (p := ⟨w.heap.size, 1, none⟩) (by simp) _
def RetNewL (w : World) (n L : Nat) (e : Ending) (w' : World) : Prop :=
  ∃ ao cap, e = .returned (.tuple #[.agg #[.int .i64 (n : Nat), .slice ao L cap], .int .i64 0]) ∧ OwnU w.heap.size w' ao L (fun _ => 0) ∧ Below w.heap.size w w'
theorem new_noneL (n L : Nat) (w : World) (hn : n ≤ 8192) (hL : (n + 63) / 64 = L) : Calls Try.prog 48 #[.int .i64 (n : Nat), .slice none 0 0] w (RetNewL w n L) := by
  subst hL
  exact (new_none n w hn).mono fun _ _ ⟨ao, cap, h1, h2, h3⟩ => ⟨ao, cap, h1, h2, h3⟩
/-- What is read behind k words: the words h, and the reader. -/
def LoopSt (k N : Nat) (f : Nat → Nat) (e : Int) (h : Nat → Nat) (N' : Nat) (f' : Nat → Nat) (e' : Int) : Prop :=
  (e ≠ 0 ∧ N' = N ∧ f' = f ∧ e' = e) ∨ (e = 0 ∧ N < 8 * k ∧ N' = 0 ∧ e' = 30) ∨
  (e = 0 ∧ 8 * k ≤ N ∧ N' = N - 8 * k ∧ f' = (fun i => f (8 * k + i)) ∧ e' = 0 ∧ ∀ j, j < k → h j = numB (fun i => f (8 * j + i)) 8)
theorem LoopSt.start (N : Nat) (f : Nat → Nat) (e : Int) (h : Nat → Nat) : LoopSt 0 N f e h N f e := by
  by_cases he : e = 0
  · exact .inr (.inr ⟨he, by omega, by omega, by simp, he, fun j hj => by omega⟩)
  · exact .inl ⟨he, rfl, rfl, rfl⟩
theorem LoopSt.next {k N : Nat} {f : Nat → Nat} {e : Int} {h : Nat → Nat} {N' : Nat} {f' : Nat → Nat} {e' : Int} {most x N2 : Nat} {f2 : Nat → Nat} {e2 : Int} (hf : ∀ i, i < N → f i < 256) (hl : LoopSt k N f e h N' f' e') (hm : most = 18446744073709551615) (hs : NumStep 8 most N' f' e' x N2 f2 e2) :
    LoopSt (k + 1) N f e (upd h k x) N2 f2 e2 ∧ x < 18446744073709551616 := by
  rcases hl with ⟨a1, rfl, rfl, rfl⟩ | ⟨a1, a2, a3, a4⟩ | ⟨a1, a2, rfl, rfl, rfl, a6⟩
  · rcases hs with ⟨_, rfl, rfl, rfl, rfl⟩ | ⟨b1, _⟩ | ⟨b1, _⟩ | ⟨b1, _⟩
    · exact ⟨.inl ⟨a1, rfl, rfl, rfl⟩, by decide⟩
    all_goals exact absurd b1 a1
  · subst a4
    rcases hs with ⟨_, rfl, rfl, rfl, rfl⟩ | ⟨b1, _⟩ | ⟨b1, _⟩ | ⟨b1, _⟩
    · exact ⟨.inr (.inl ⟨a1, by omega, a3, rfl⟩), by decide⟩
    all_goals simp at b1
  · rcases hs with ⟨b1, _⟩ | ⟨_, b2, rfl, rfl, rfl⟩ | ⟨_, b2, b3, _⟩ | ⟨_, b2, b3, rfl, rfl, rfl, rfl⟩
    · exact absurd rfl b1
    · exact ⟨.inr (.inl ⟨a1, by omega, rfl, rfl⟩), by decide⟩
    · exfalso
      have := numB_lt (f := fun i => f (8 * k + i)) (n := 8) (fun i hi => hf _ (by omega))
      have e8 : (256 : Nat) ^ 8 = 18446744073709551616 := by decide
      omega
    · refine ⟨.inr (.inr ⟨a1, by omega, by omega, ?_, rfl, fun j hj => ?_⟩), by omega⟩
      · funext i
        rw [show 8 * (k + 1) + i = 8 * k + (8 + i) by omega]
      · unfold upd
        by_cases hjk : j = k
        · subst hjk; simp
        · rw [if_neg hjk]; exact a6 j (by omega)
/-- Words and bytes lie in blocks of their own. -/
theorem OwnU.apart {B : Nat} {w : World} {g len : Nat} {h : Nat → Nat} {ao : Option Addr} (ho : OwnU B w ao len h) (hl : 0 < len) (e : ao = some ⟨g, 0, none⟩) {ar : Option Addr} {n : Nat} {f : Nat → Nat} (hr : Rd w ar n f) (hn : 0 < n) (a : Addr) (ea : ar = some a) : g ≠ a.block := by
  obtain ⟨b, off, e', _, hc⟩ := hr.at_ hn
  obtain ⟨g', cur, e2, hg, hsz, hcur⟩ := ho.row hl
  rw [e] at e2
  obtain rfl : g = g' := by simpa using e2
  rw [e'] at ea
  obtain rfl := Option.some.inj ea
  rintro rfl
  have h0 := hc 0 hn
  rw [cell_of_row w g (off + 0) cur 37 (0, 0) hg] at h0
  by_cases ho : off + 0 < len
  · rw [hcur _ ho] at h0
    simp at h0
  · rw [Array.getElem?_eq_none (by omega)] at h0
    simp at h0
/-- The loop of Set: the reader, the set on its way, the result's box. -/
structure SetI (w : World) (b bs n L : Nat) (ao : Option Addr) (cap : Nat) (h : Nat → Nat) (N : Nat) (f : Nat → Nat) (e : Int) (wr : World) : Prop where
  rdr : ∃ ao' cap', Rdr wr b ao' N cap' f e
  box : Box wr bs (.int .i64 (n : Nat)) (.slice ao L cap)
  own : OwnU (w.heap.size + 1) wr ao L h
  res : Box wr w.heap.size (.int .i64 0) (.slice none 0 0)
  but : But (some ⟨b, 0, none⟩) w wr
/-- A word is read. -/
theorem SetI.num {w : World} {b bs n L : Nat} {ao : Option Addr} {cap : Nat} {h : Nat → Nat} {N : Nat} {f : Nat → Nat} {e : Int} {wr : World} (t : SetI w b bs n L ao cap h N f e wr) {N' : Nat} {f' : Nat → Nat} {e' : Int} {w' : World} (hr : RetR wr b N' f' e' w') (hb : b < w.heap.size) (hbs : w.heap.size < bs) :
    SetI w b bs n L ao cap h N' f' e' w' := by
  obtain ⟨hr, hB⟩ := hr
  refine ⟨hr, t.box.but hB (fun a ea => ?_), t.own.but hB (fun a c ea ec => ?_), t.res.but hB (fun a ea => ?_), t.but.trans hB⟩
  · obtain rfl := Option.some.inj ea; show b ≠ bs; omega
  · obtain rfl := Option.some.inj ec; have := (t.own.lt a ea).2; show b ≠ a.block; omega
  · obtain rfl := Option.some.inj ea; show b ≠ w.heap.size; omega
/-- And stored. -/
theorem SetI.store {w : World} {b bs n L : Nat} {g : Nat} {cap : Nat} {h : Nat → Nat} {N : Nat} {f : Nat → Nat} {e : Int} {wr : World} (t : SetI w b bs n L (some ⟨g, 0, none⟩) cap h N f e wr) {k x : Nat} (hb : b < w.heap.size) (hg : w.heap.size < g) (hgb : g ≠ bs) (hk : k < L) (hx : x < 18446744073709551616) :
    SetI w b bs n L (some ⟨g, 0, none⟩) cap (upd h k x) N f e (wr.setCell ⟨g, k, none⟩ (.int .u64 (x : Nat))) := by
  have hB : But (some ⟨g, 0, none⟩) wr (wr.setCell ⟨g, k, none⟩ (.int .u64 (x : Nat))) := (But.refl _ _).setCell (p := ⟨g, k, none⟩) (.inl ⟨⟨g, 0, none⟩, rfl, rfl⟩) _
  refine ⟨?_, t.box.other (p := ⟨g, k, none⟩) hgb _, t.own.set rfl hk hx, t.res.other (p := ⟨g, k, none⟩) (by show g ≠ _; omega) _, t.but.setCell (p := ⟨g, k, none⟩) (.inr (by show w.heap.size ≤ g; omega)) _⟩
  obtain ⟨ao', cap', hr⟩ := t.rdr
  refine ⟨ao', cap', ?_, hr.rd.but hB (fun hl a c ea ec => ?_), hr.room, hr.nil⟩
  · rw [Below.heap_setCell _ _ _ _ (by show b ≠ g; omega)]; exact hr.blk
  · obtain rfl := Option.some.inj ec; exact t.own.apart (by omega) rfl hr.rd hl a ea
/-- The words that stand in bytes. -/
def wdB (f : Nat → Nat) (j : Nat) : Nat := numB (fun i => f (8 * j + i)) 8
theorem ok_congr {n : Int} {L : Nat} {h g : Nat → Nat} (e : ∀ j, j < L → h j = g j) : Ok n L h ↔ Ok n L g := by
  unfold Ok bitAt
  constructor
  · rintro ⟨a, b, c, d⟩
    exact ⟨a, b, c, fun k h1 h2 => by rw [← e (k / 64) (by omega)]; exact d k h1 h2⟩
  · rintro ⟨a, b, c, d⟩
    exact ⟨a, b, c, fun k h1 h2 => by rw [e (k / 64) (by omega)]; exact d k h1 h2⟩
/-- What Set of a reader does: no set. -/
def SetNo (n L N : Nat) (f : Nat → Nat) (e : Int) (N' : Nat) (f' : Nat → Nat) (e' : Int) : Prop :=
  (e ≠ 0 ∧ N' = N ∧ f' = f ∧ e' = e) ∨ (e = 0 ∧ N < 8 * L ∧ N' = 0 ∧ e' = 30) ∨ (e = 0 ∧ 8 * L ≤ N ∧ ¬ Ok n L (wdB f) ∧ N' = 0 ∧ e' = 31)
/-- The set that is read. -/
def SetYes (n L N : Nat) (f : Nat → Nat) (e : Int) (N' : Nat) (f' : Nat → Nat) (e' : Int) : Prop :=
  e = 0 ∧ 8 * L ≤ N ∧ Ok n L (wdB f) ∧ N' = N - 8 * L ∧ f' = (fun i => f (8 * L + i)) ∧ e' = 0
def RetSR (w : World) (b n L N : Nat) (f : Nat → Nat) (e : Int) (en : Ending) (w' : World) : Prop :=
  ∃ N' f' e', RetR w b N' f' e' w' ∧ ((en = .returned (.agg #[.int .i64 0, .slice none 0 0]) ∧ SetNo n L N f e N' f' e') ∨
    (∃ ao cap, en = .returned (.agg #[.int .i64 (n : Nat), .slice ao L cap]) ∧ RdU w' ao L (wdB f) ∧ SetYes n L N f e N' f' e'))
theorem RdU.congr {w : World} {ao : Option Addr} {len : Nat} {f g : Nat → Nat} (h : RdU w ao len f) (e : ∀ i, i < len → f i = g i) : RdU w ao len g := by
  refine ⟨fun i hi => e i hi ▸ h.small i hi, fun hl => ?_⟩
  obtain ⟨b, off, e', hlt, hc⟩ := h.at_ hl
  exact ⟨b, off, e', hlt, fun i hi => by rw [hc i hi, e i hi]⟩
/-- The result's box is written. -/
theorem RetR.box {w : World} {b N : Nat} {f : Nat → Nat} {e : Int} {w' : World} (h : RetR w b N f e w') (hx : Box w' w.heap.size (.int .i64 0) (.slice none 0 0)) (hb : b < w.heap.size) (u v : Value) :
    RetR w b N f e ((w'.setCell ⟨w.heap.size, 0, none⟩ u).setCell ⟨w.heap.size, 1, none⟩ v) := by
  obtain ⟨⟨ao, cap, hr⟩, hB⟩ := h
  have hB2 : But (some ⟨w.heap.size, 0, none⟩) w' ((w'.setCell ⟨w.heap.size, 0, none⟩ u).setCell ⟨w.heap.size, 1, none⟩ v) := ((But.refl _ _).setCell (p := ⟨w.heap.size, 0, none⟩) (.inl ⟨_, rfl, rfl⟩) _).setCell (p := ⟨w.heap.size, 1, none⟩) (.inl ⟨⟨w.heap.size, 0, none⟩, rfl, rfl⟩) _
  refine ⟨⟨ao, cap, ?_, hr.rd.but hB2 (fun hl a c ea ec => ?_), hr.room, hr.nil⟩, (hB.setCell (.inr (Nat.le_refl _)) _).setCell (.inr (Nat.le_refl _)) _⟩
  · rw [Below.heap_setCell _ _ _ _ (by show b ≠ w.heap.size; omega), Below.heap_setCell _ _ _ _ (by show b ≠ w.heap.size; omega)]; exact hr.blk
  · obtain rfl := Option.some.inj ec
    obtain ⟨b', off, e', _, hc⟩ := hr.rd.at_ hl
    rw [e'] at ea
    obtain rfl := Option.some.inj ea
    rintro rfl
    have h0 := hc 0 hl
    rw [cell_of_row w' _ (off + 0) _ 25 (0, 0) hx] at h0
    have : off = 0 ∨ off = 1 ∨ 2 ≤ off := by omega
    rcases this with rfl | rfl | h3
    · simp at h0
    · simp at h0
    · rw [Array.getElem?_eq_none (by simp; omega)] at h0
      simp at h0
set_option maxHeartbeats 3000000 in
theorem set_loop {w : World} {b : Nat} {ao : Option Addr} {N cap : Nat} {f : Nat → Nat} {e : Int} (h : Rdr w b ao N cap f e) (n L : Nat) (hn : n ≤ 8192) (hLL : (n + 63) / 64 = L) :
    Calls Try.prog 34 #[.pointer (some ⟨b, 0, none⟩), .int .i64 (n : Nat)] w (RetSR w b n L N f e) := by
  have hlt := h.lt
  have hnew := new_noneL n L (w.alloc (.cells #[.int .i64 0, .slice none 0 0] 25)) hn hLL
  have hL : (L : Int) ≤ 128 := by omega
  clear hLL
  go_enter Try.func34, Try.ntmps34
  go_wp2_with fail
  refine wp_scope_once 0 rfl ?_
  go_wp2_with fail
  refine hnew.mono ?_
  rintro en w1 ⟨ao1, cap1, rfl, ho1, hb1⟩
  have res1 := (Box.new w (.int .i64 0) (.slice none 0 0)).below hb1
  have hb : Below w.heap.size w w1 := ((Below.refl _ _).alloc (Nat.le_refl _) _).trans (hb1.mono (by simp))
  have h1 := h.below hb
  have ho1' : OwnU (w.heap.size + 1) w1 ao1 L (fun _ => 0) := by simpa using ho1
  have hlt1 : w.heap.size < w1.heap.size := res1.lt
  have hI : SetI w b w1.heap.size n L ao1 cap1 (fun _ => 0) N f e (w1.alloc (.cells #[.int .i64 (n : Nat), .slice ao1 L cap1] 25)) :=
    ⟨⟨_, _, h1.below ((Below.refl _ _).alloc (Nat.le_refl _) _)⟩, Box.new _ _ _, ho1'.alloc _, res1.alloc _, (But.of_below hb).alloc _⟩
  have hao : ∀ a, ao1 = some a → w.heap.size + 1 ≤ a.block ∧ a.block < w1.heap.size := fun a e => ⟨(ho1'.lt a e).2, (ho1'.lt a e).1⟩
  clear ho1 res1 hb1 ho1'
  obtain ⟨c0, c1, c2, c3⟩ := hI.box.cells
  have hne : w.heap.size ≠ w1.heap.size := by omega
  go_wp2_with fail
  clear c0 c1 c2 c3
  go_loopw [18] (fun i wr => ∃ (k : Nat) (hh : Nat → Nat) (N' : Nat) (f' : Nat → Nat) (e' : Int), k ≤ L ∧ i = .int .i64 k ∧ SetI w b w1.heap.size n L ao1 cap1 hh N' f' e' wr ∧ LoopSt k N f e hh N' f' e') (fun i _ => L - (intOf i).toNat)
  case atStart => exact ⟨0, _, N, f, e, Nat.zero_le _, rfl, hI, LoopSt.start _ _ _ _⟩
  case round =>
    obtain ⟨k, hh, N', f', e', hk, rfl, t, hst⟩ := hrel
    have HST : Hid (LoopSt k N f e hh N' f' e') := hst
    clear hst hI
    by_cases hlk : k < L
    · obtain ⟨g, rfl, _⟩ := t.own.at_ (by omega)
      have hg := hao _ rfl
      have hg1 : w.heap.size + 1 ≤ g := hg.1
      have hg2 : g < w1.heap.size := hg.2
      have hgne : g ≠ w1.heap.size := by omega
      have hki : (k : Int) < (L : Int) := by omega
      have hk0 : (0 : Int) ≤ (k : Int) := by omega
      clear hg hao
      go_wp2_with fail
      have hbx : ∀ {W : World} {x y : Value}, Box W w1.heap.size x y → W.cell? ⟨w1.heap.size, 0, none⟩ = some x ∧ W.cell? ⟨w1.heap.size, 1, none⟩ = some y := fun hx => ⟨hx.cells.1, hx.cells.2.1⟩
      have HBX : Hid (∀ {W : World} {x y : Value}, Box W w1.heap.size x y → W.cell? ⟨w1.heap.size, 0, none⟩ = some x ∧ W.cell? ⟨w1.heap.size, 1, none⟩ = some y) := hbx
      clear hbx
      have t0 : SetI w b w1.heap.size n L (some ⟨g, 0, none⟩) cap1 hh N' f' e' wr.drew := ⟨t.rdr.elim fun ao' hr => hr.elim fun cap' hr => ⟨ao', cap', hr.below (Below.refl _ _).drew⟩, t.box.drew, t.own.drew, t.res.drew, t.but.drew⟩
      clear t
      have hc := HBX.out t0.box
      obtain ⟨aor, capr, hR⟩ := t0.rdr
      have hnum := num_r hR 8 18446744073709551615 (by decide) (by decide)
      rw [show szB 8 = 8 from rfl] at hnum
      go_region_held3 (fun w' => w'.cell? ⟨w1.heap.size, 0, none⟩ = some (.int .i64 (n : Nat)) ∧ w'.cell? ⟨w1.heap.size, 1, none⟩ = some (.slice (some ⟨g, 0, none⟩) L cap1)) (first | exact hc | exact HBX.out (t0.box.other (p := ⟨g, k, none⟩) hgne _))
        (first | (go_at_call 31; refine hnum.mono ?_; rintro en w2 ⟨x, N2, f2, e2, rfl, hns, hret⟩; replace t0 := t0.num hret hlt (by omega); clear hc hnum; have hc := HBX.out t0.box; obtain ⟨gg, eg, hcc⟩ := t0.own.at_ (by omega); obtain ⟨rfl⟩ : g = gg := (by simpa using eg); obtain ⟨cc, cf⟩ := hcc k hlk; have hglt : g < w2.heap.size := (t0.own.lt _ rfl).1; clear hcc eg))
      go_wp2
      obtain ⟨hnx, hx⟩ := HST.out.next h.rd.small rfl hns
      exact ⟨⟨k + 1, _, N2, f2, e2, by omega, by go_num, t0.store hlt (by omega) hgne hlk hx, hnx⟩, by simp [intOf]; omega⟩
    · obtain rfl : k = L := by omega
      obtain ⟨aor, capr, hR⟩ := t.rdr
      obtain ⟨p0, p1, p2, p3⟩ := t.box.cells
      go_wp2_with fail
      refine (err_any hR).mono ?_
      rintro en w' ⟨rfl, rfl⟩
      have hres := t.res
      have hne2 : w.heap.size ≠ w1.heap.size := by omega
      obtain ⟨q0, q1, q2, q3⟩ := hres.cells
      have hrlt := hres.lt
      by_cases he : e' = 0
      · subst he
        obtain ⟨a1, a2, a3, a4, a6⟩ : e = 0 ∧ 8 * k ≤ N ∧ N' = N - 8 * k ∧ f' = (fun i => f (8 * k + i)) ∧ ∀ j, j < k → hh j = wdB f j := by
          rcases HST.out with ⟨b1, _, _, b4⟩ | ⟨_, _, _, b4⟩ | ⟨b1, b2, b3, b4, _, b6⟩
          · exact absurd b4.symm b1
          · simp at b4
          · exact ⟨b1, b2, b3, b4, b6⟩
        have HA : Hid (e = 0 ∧ 8 * k ≤ N ∧ N' = N - 8 * k ∧ f' = (fun i => f (8 * k + i)) ∧ ∀ j, j < k → hh j = wdB f j) := ⟨a1, a2, a3, a4, a6⟩
        by_cases hok : Ok n k (wdB f)
        · have hok2 := (ok_congr (n := n) a6).2 hok
          have HOK : Hid (Ok n k (wdB f)) := hok
          clear hok a1 a2 a3 a4 a6 HST
          go_wp2_with fail
          refine (check_ok n ao1 k cap1 hh _ t.own.rd hok2).mono ?_
          rintro en w3 ⟨rfl, hb3⟩
          clear p0 p1 p2 p3 q0 q1 q2 q3
          have hres3 := hres.below hb3
          obtain ⟨q0, q1, q2, q3⟩ := hres3.cells
          obtain ⟨p0, p1, p2, p3⟩ := (t.box.below hb3).cells
          obtain ⟨r0, r1, r2, r3⟩ := (hres3.set (.int .i64 (n : Nat)) (.slice ao1 k cap1)).cells
          have hret : RetR w b N' f' 0 w3 := ⟨⟨aor, capr, hR.below hb3⟩, t.but.after hb3⟩
          have hrdu : RdU ((w3.setCell ⟨w.heap.size, 0, none⟩ (.int .i64 (n : Nat))).setCell ⟨w.heap.size, 1, none⟩ (.slice ao1 k cap1)) ao1 k hh := by
            refine (OwnU.but (ax := some ⟨w.heap.size, 0, none⟩) (t.own.below hb3) (((But.refl _ _).setCell (p := ⟨w.heap.size, 0, none⟩) (.inl ⟨_, rfl, rfl⟩) _).setCell (p := ⟨w.heap.size, 1, none⟩) (.inl ⟨⟨w.heap.size, 0, none⟩, rfl, rfl⟩) _) fun a c ea ec => ?_).rd
            obtain rfl := Option.some.inj ec
            have := hao a ea
            show w.heap.size ≠ a.block
            omega
          go_wp2
          obtain ⟨a1, a2, a3, a4, a6⟩ := HA.out
          exact bodyPost_ret (v := .agg #[.int .i64 n, .slice ao1 k cap1]) (by simp [results, Try.results34, go_sem, r0, r1]) rfl ⟨N', f', 0, hret.box hres3 hlt _ _, .inr ⟨ao1, cap1, rfl, hrdu.congr a6, a1, a2, HOK.out, a3, a4, rfl⟩⟩
        · have hok2 : ¬ Ok n k hh := fun h => hok ((ok_congr (n := n) a6).1 h)
          have HOK : Hid (¬ Ok n k (wdB f)) := hok
          clear hok a1 a2 a3 a4 a6 HST
          go_wp2_with fail
          refine (check_bad n ao1 k cap1 hh _ t.own.rd hok2).mono ?_
          rintro en w3 ⟨rfl, hb3⟩
          clear p0 p1 p2 p3 q0 q1 q2 q3
          have hres3 := hres.below hb3
          have hR3 := hR.below hb3
          have hB3 := t.but.after hb3
          go_wp2_with fail
          go_step3
          refine And.intro rfl ?_
          go_wp2_with fail
          refine (fail_new hR3 31 (by decide)).mono ?_
          rintro en w4 ⟨rfl, hR4, hB4⟩
          have hres4 := hres3.but hB4 (fun a ea => by obtain rfl := Option.some.inj ea; show b ≠ _; omega)
          obtain ⟨q0, q1, q2, q3⟩ := hres4.cells
          have hrlt4 := hres4.lt
          obtain ⟨r0, r1, r2, r3⟩ := (hres4.set (.int .i64 0) (.slice none 0 0)).cells
          have hret : RetR w b 0 f' 31 w4 := ⟨⟨_, _, hR4⟩, hB3.trans hB4⟩
          go_wp2_with fail
          rw [Exit.noGoto_ret]
          obtain ⟨a1, a2, a3, a4, a6⟩ := HA.out
          exact bodyPost_ret (v := .agg #[.int .i64 0, .slice none 0 0]) (by simp [results, Try.results34, go_sem, r0, r1]) rfl ⟨0, f', 31, hret.box hres4 hlt _ _, .inl ⟨rfl, .inr (.inr ⟨a1, a2, HOK.out, rfl, rfl⟩)⟩⟩
      · have hd : (e' != 0) = true := by rw [bne_iff_ne]; exact he
        have hret : RetR w b N' f' e' w' := ⟨⟨_, _, hR⟩, t.but⟩
        obtain ⟨r0, r1, r2, r3⟩ := (hres.set (.int .i64 0) (.slice none 0 0)).cells
        go_wp2_with fail
        go_step3
        refine And.intro rfl ?_
        go_wp2_with (go_at_call 36; refine (fail_same hR _ (.inr he)).mono ?_; rintro en w' ⟨rfl, rfl⟩)
        rw [Exit.noGoto_ret]
        refine bodyPost_ret (v := .agg #[.int .i64 0, .slice none 0 0]) (by simp [results, Try.results34, go_sem, r0, r1]) rfl ⟨N', f', e', hret.box hres hlt _ _, .inl ⟨rfl, ?_⟩⟩
        rcases HST.out with ⟨b1, b2, b3, b4⟩ | ⟨b1, b2, b3, b4⟩ | ⟨_, _, _, _, b5, _⟩
        · exact .inl ⟨b1, b2, b3, b4⟩
        · exact .inr (.inl ⟨b1, b2, b3, b4⟩)
        · exact absurd b5 he
end Go.Proofs.Ytnjnaihogbnmaaa
