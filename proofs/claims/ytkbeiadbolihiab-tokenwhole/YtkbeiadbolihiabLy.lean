/- token: Lex as a whole. -/
import Derived.Test.YtkbeiadbolihiabLx
namespace Go.Proofs.Ytkbeiadbolihiab
open Go.RowKit Go.Shelf
attribute [local go_sem] Oper.semAt_some
set_option maxRecDepth 100000 in
set_option maxHeartbeats 2000000 in
theorem lex_short (ao : Option Addr) (n cap : Nat) (z : Nat → Nat) (w : World) (hr : Rd w ao n z) (hn : (n : Int) ≤ 1024) : Calls Try.prog 4 #[.slice ao n cap] w (RetLx w z n) := by
  have hgt : ¬ ((n : Int) > 1024) := by omega
  have hB0 : Below w.heap.size w (((((w.alloc (.cells #[.slice none 0 0] 23)).alloc (.cells #[.int .i64 0] 3)).alloc (.cells #[.int .i64 0] 24)).alloc (.cells #[.slice none 0 0] 23)).alloc (.cells #[.slice ao n cap] 22)) := (bel4 w _ _ _ _).alloc (by simp; omega) _
  have hI0 : LxI w [] (((((w.alloc (.cells #[.slice none 0 0] 23)).alloc (.cells #[.int .i64 0] 3)).alloc (.cells #[.int .i64 0] 24)).alloc (.cells #[.slice none 0 0] 23)).alloc (.cells #[.slice ao n cap] 22)) := by
    refine ⟨⟨.slice none 0 0, ?_, World.ownsRow_nil _ _ _ _⟩, ?_, ?_, ?_, hB0, fun s hs => by cases hs⟩
    · have := (Cl.new (((w.alloc (.cells #[.slice none 0 0] 23)).alloc (.cells #[.int .i64 0] 3)).alloc (.cells #[.int .i64 0] 24)) 23 [.slice none 0 0]).alloc (.cells #[.slice ao n cap] 22)
      simpa using this
    · exact ((((Cl.new w 23 [.slice none 0 0]).alloc _).alloc _).alloc _).alloc _
    · have := (((Cl.new (w.alloc (.cells #[.slice none 0 0] 23)) 3 [.int .i64 0]).alloc (.cells #[.int .i64 0] 24)).alloc (.cells #[.slice none 0 0] 23)).alloc (.cells #[.slice ao n cap] 22)
      simpa using this
    · have := ((Cl.new ((w.alloc (.cells #[.slice none 0 0] 23)).alloc (.cells #[.int .i64 0] 3)) 24 [.int .i64 0]).alloc (.cells #[.slice none 0 0] 23)).alloc (.cells #[.slice ao n cap] 22)
      simpa using this
  have hP0 : Cl (((((w.alloc (.cells #[.slice none 0 0] 23)).alloc (.cells #[.int .i64 0] 3)).alloc (.cells #[.int .i64 0] 24)).alloc (.cells #[.slice none 0 0] 23)).alloc (.cells #[.slice ao n cap] 22)) (w.heap.size + 1 + 1 + 1 + 1) 22 [.slice ao n cap] := by
    have := Cl.new ((((w.alloc (.cells #[.slice none 0 0] 23)).alloc (.cells #[.int .i64 0] 3)).alloc (.cells #[.int .i64 0] 24)).alloc (.cells #[.slice none 0 0] 23)) 22 [.slice ao n cap]
    simpa using this
  have hW := words_any ao n cap
  refine (callsIn_wide (n := 5)).1 ?_
  refine callsIn_of_wp_marks Try.func4 rfl trivial ?_ rfl
  simp only [Try.ntmps4, List.size_toArray, List.length_cons, List.length_nil, Nat.reduceAdd, Nat.reduceSub, Array.replicate_succ, Array.replicate_zero, List.push_toArray, List.append_toArray, List.nil_append, List.cons_append]
  gi_wp2_with (refine ⟨trivial, ?_⟩; gi_at_call 7; refine (callsIn_wide.2 (hW _)).mono ?_; rintro e w1 ⟨rfl, rfl⟩)
  generalize hw1 : ((((w.alloc (.cells #[.slice none 0 0] 23)).alloc (.cells #[.int .i64 0] 3)).alloc (.cells #[.int .i64 0] 24)).alloc (.cells #[.slice none 0 0] 23)).alloc (.cells #[.slice ao n cap] 22) = w1 at *
  have hs : w1.heap.size = w.heap.size + 5 := by rw [← hw1]; simp
  have hold : ∀ k, k < w.heap.size → w1.heap[k]? = w.heap[k]? := fun k hk => hB0.block k hk
  clear hw1 hW
  obtain ⟨i0, hi, hz0, hz1, hz2⟩ := info_parts b_tok
  refine wpIn_rangeFunc_turn (n := 5) rfl (by decide) (gf := 8) (lb := #[.pointer (some ⟨w.heap.size + 1 + 1 + 1 + 1, 0, none⟩)]) rfl trivial (enters_of Try.func8 (by kernel_rfl) rfl)
    (encs := fun s : TokS => #[tokOf s, markV s.en s.er]) (S := fun ys => ys = wl z n 1100 0) (Sp := fun pre => pre <+: wl z n 1100 0) (N := 1024) (LxOld w) (fun k hk => by unfold LxOld at hk; omega)
    (words_seq 4 (by decide) w w1 (w.heap.size + 1 + 1 + 1 + 1) (LxOld w) (fun _ h => h) ao n cap z hr hn hP0 hold (by omega)) (fun _ => rfl)
    (LxI w) (fun c pre W => c = .ret ∧ LxX w pre W) (fun s A B h ht => h.turn (hs ▸ ht)) (fun c s A B h ht => ⟨h.1, h.2.turn (hs ▸ ht)⟩) hI0
    (LxA w ao n cap) (fun x a' A B h ht => ?_) ?assign ?body ?done ?stop
  · obtain ⟨p, hp, e, h1, h2⟩ := h
    exact ⟨p, hp, e, h1.turn ht (by omega), h2.turn ht (by omega)⟩
  case assign =>
    intro pre x W K hI hsz hK
    rw [hs] at hsz
    have HX : Hid (LxA w ao n cap x ⟨#[.slice ao n cap, undef, .pointer (some ⟨w.heap.size, 0, none⟩), .pointer (some ⟨w.heap.size + 1, 0, none⟩), .pointer (some ⟨w.heap.size + 1 + 1, 0, none⟩), .pointer (some ⟨w.heap.size + 1 + 1 + 1, 0, none⟩), .pointer (some ⟨W.heap.size, 0, none⟩), .pointer (some ⟨W.heap.size + 1, 0, none⟩), .slice ao n cap, .int .i64 (n : Nat), .bool false, .slice ao n cap, .func (.func 8) #[] #[.pointer (some ⟨w.heap.size + 1 + 1 + 1 + 1, 0, none⟩)], tokOf x, markV x.en x.er, undef, undef, undef, undef, undef, undef, undef, undef, undef, undef, undef, undef, undef, undef], []⟩ ((W.alloc (.cells #[.int .i64 x.k, .int .u8 (x.b : Nat), .int .u64 (wds x.P 0 : Nat), .int .u64 (wds x.P 1 : Nat), .int .u64 (wds x.P 2 : Nat), .int .u64 (wds x.P 3 : Nat), .bool x.nt, .int .i64 x.l, .int .i64 x.m, .bool x.lz, .int .i64 (x.at_ : Nat)] 32)).alloc (.cells #[.int .i64 (x.en : Nat), .int .i64 x.er] 39))) := by
      refine ⟨W.heap.size, by omega, rfl, (Cl.new W 32 _).alloc _, ?_⟩
      have := Cl.new (W.alloc (.cells #[.int .i64 x.k, .int .u8 (x.b : Nat), .int .u64 (wds x.P 0 : Nat), .int .u64 (wds x.P 1 : Nat), .int .u64 (wds x.P 2 : Nat), .int .u64 (wds x.P 3 : Nat), .bool x.nt, .int .i64 x.l, .int .i64 x.m, .bool x.lz, .int .i64 (x.at_ : Nat)] 32)) 39 [.int .i64 (x.en : Nat), .int .i64 x.er]
      simpa using this
    have HI : Hid (LxI w pre ((W.alloc (.cells #[.int .i64 x.k, .int .u8 (x.b : Nat), .int .u64 (wds x.P 0 : Nat), .int .u64 (wds x.P 1 : Nat), .int .u64 (wds x.P 2 : Nat), .int .u64 (wds x.P 3 : Nat), .bool x.nt, .int .i64 x.l, .int .i64 x.m, .bool x.lz, .int .i64 (x.at_ : Nat)] 32)).alloc (.cells #[.int .i64 (x.en : Nat), .int .i64 x.er] 39))) := hI.turn (Turn.of_below (bel2 W _ _))
    have HT : Hid (KeepT w1.heap.size (LxOld w) W ((W.alloc (.cells #[.int .i64 x.k, .int .u8 (x.b : Nat), .int .u64 (wds x.P 0 : Nat), .int .u64 (wds x.P 1 : Nat), .int .u64 (wds x.P 2 : Nat), .int .u64 (wds x.P 3 : Nat), .bool x.nt, .int .i64 x.l, .int .i64 x.m, .bool x.lz, .int .i64 (x.at_ : Nat)] 32)).alloc (.cells #[.int .i64 (x.en : Nat), .int .i64 x.er] 39))) := by rw [hs]; exact KeepT.of_below (bel2 W _ _) (by omega)
    clear hI hold hP0 hI0 hB0 hr
    unfold tokOf markV tokV at *
    gi_wp2
    exact hK _ _ HT.out HI.out HX.out
  case body =>
    rintro pre x a' W hI ⟨p, hp, rfl, ht, hm⟩ hsz hlen
    rw [hs] at hsz
    obtain ⟨v, hv, hrow⟩ := hI.row
    obtain ⟨⟨m0, m1⟩, n0, n1⟩ := hm.two
    obtain ⟨v0, v1⟩ := hv.one
    by_cases he : x.er = 0
    · have h9 : (x.er != 0) = false := by simp [he]
      have HC : Hid (Cl W p 32 [.int .i64 x.k, .int .u8 (x.b : Nat), .int .u64 (wds x.P 0 : Nat), .int .u64 (wds x.P 1 : Nat), .int .u64 (wds x.P 2 : Nat), .int .u64 (wds x.P 3 : Nat), .bool x.nt, .int .i64 x.l, .int .i64 x.m, .bool x.lz, .int .i64 (x.at_ : Nat)]) := ht
      obtain ⟨c0, c1, c2, c3, c4, c5, c6, c7, c8, c9, c10⟩ := HC.out.eleven.1
      obtain ⟨ao', cap', rfl⟩ := ownsRow_slice hrow
      have HS : Hid (∀ v' w2, w2.ownsRow (w.heap.size + 9) 32 11 v' (pre.length + 1) (tokL pre ++ [.int .i64 x.k, .int .u8 (x.b : Nat), .int .u64 (wds x.P 0 : Nat), .int .u64 (wds x.P 1 : Nat), .int .u64 (wds x.P 2 : Nat), .int .u64 (wds x.P 3 : Nat), .bool x.nt, .int .i64 x.l, .int .i64 x.m, .bool x.lz, .int .i64 (x.at_ : Nat)]) → (W.alloc (.cells #[.int .i64 x.k, .int .u8 (x.b : Nat), .int .u64 (wds x.P 0 : Nat), .int .u64 (wds x.P 1 : Nat), .int .u64 (wds x.P 2 : Nat), .int .u64 (wds x.P 3 : Nat), .bool x.nt, .int .i64 x.l, .int .i64 x.m, .bool x.lz, .int .i64 (x.at_ : Nat)] 32)).grownBy w2 (Value.slice ao' pre.length cap').ownBlock → _) := fun v' w2 ho hg => lx_step (x := x) hI he hsz hv hrow ho hg
      have hb : (pre.length : Int) < 1024 := by omega
      clear ht hm hI hv hold hP0 hI0 hB0 hr he
      unfold tokOf markV tokV
      generalize wds x.P 0 = a0 at *
      generalize wds x.P 1 = a1 at *
      generalize wds x.P 2 = a2 at *
      generalize wds x.P 3 = a3 at *
      gi_wp2_with (gi_at_builtin; refine wpListIn_append_own _ rfl _ _ 23 rfl (w.heap.size + 9) 32 i0 (.agg #[.int .i64 0, .int .u8 0, .int .u64 0, .int .u64 0, .int .u64 0, .int .u64 0, .bool false, .int .i64 0, .int .i64 0, .bool false, .int .i64 0]) 11 88 Try.underlying23 hi hz0 hz1 hz2 rfl (by decide) _ _ _ rfl (hrow.alloc _) ⟨W.heap.size, 0, none⟩ 1 1 [.int .i64 x.k, .int .u8 (x.b : Nat), .int .u64 (a0 : Nat), .int .u64 (a1 : Nat), .int .u64 (a2 : Nat), .int .u64 (a3 : Nat), .bool x.nt, .int .i64 x.l, .int .i64 x.m, .bool x.lz, .int .i64 (x.at_ : Nat)] rfl rfl (eleven_new _ _ _ _ _ _ _ _ _ _ _ _ _) (by simp [Value.oneCell']) (by unfold maxLen; omega) (by omega) (by simp; omega) ?_; intro v' w2 hown' hgrow _; obtain ⟨hv2, hk2, hi2⟩ := HS.out v' w2 hown' hgrow; obtain ⟨ao2, cap2, rfl⟩ := ownsRow_slice hown'; obtain ⟨q0, q1⟩ := hv2.one; have HZ : Hid (_ ∧ _) := ⟨hk2, hi2⟩; clear hk2 hi2 hv2 hgrow)
      exact ⟨by rw [hs]; exact HZ.out.1, HZ.out.2⟩
    · have h9 : (x.er != 0) = true := by simp [he]
      obtain ⟨p0, p1, p2, p3, p4⟩ := put3 hI (.slice none 0 0) (.int .i64 (x.en : Nat)) (.int .i64 x.er)
      have HX : Hid (LxX w (pre ++ [x]) ((((W.setCell ⟨w.heap.size, 0, none⟩ (.slice none 0 0)).setCell ⟨w.heap.size + 1, 0, none⟩ (.int .i64 (x.en : Nat))).setCell ⟨w.heap.size + 1 + 1, 0, none⟩ (.int .i64 x.er)).drew)) := ⟨⟨x, by simp, he, p1.drew, p2.drew⟩, p0.drew, p3.drew⟩
      have HK : Hid (KeepT w1.heap.size (LxOld w) W ((((W.setCell ⟨w.heap.size, 0, none⟩ (.slice none 0 0)).setCell ⟨w.heap.size + 1, 0, none⟩ (.int .i64 (x.en : Nat))).setCell ⟨w.heap.size + 1 + 1, 0, none⟩ (.int .i64 x.er)).drew)) := ⟨by show W.heap.size ≤ (((W.setCell _ _).setCell _ _).setCell _ _).heap.size; simp, fun k hk => by rw [hs] at hk; unfold LxOld at hk; exact p4 k (by omega) (by omega) (by omega)⟩
      obtain ⟨r0, r1⟩ := hI.r0.one
      obtain ⟨s0, s1⟩ := hI.r1.one
      obtain ⟨t0, t1⟩ := hI.r2.one
      have hmo : Try.prog.follows .mixedOrders = true := by kernel_rfl
      have np : p ≠ w.heap.size ∧ p ≠ w.heap.size + 1 ∧ p ≠ w.heap.size + 1 + 1 ∧ p + 1 ≠ w.heap.size ∧ p + 1 ≠ w.heap.size + 1 ∧ p + 1 ≠ w.heap.size + 1 + 1 := by omega
      obtain ⟨np0, np1, np2, np3, np4, np5⟩ := np
      clear ht hm hI hv hold hP0 hI0 hB0 hr he hrow p0 p1 p2 p3 p4
      unfold tokOf markV tokV
      gi_wp2_with fail
      gi_region_with_o (fail)
      all_goals gi_wp2
      all_goals exact ⟨HK.out, rfl, HX.out⟩
  case done =>
    rintro xs W rfl hI hD
    obtain ⟨v, hv, hrow⟩ := hI.row
    obtain ⟨ao', cap', rfl⟩ := ownsRow_slice hrow
    obtain ⟨v0, v1⟩ := hv.one
    obtain ⟨r0, r1⟩ := hI.r0.one
    obtain ⟨s0, s1⟩ := hI.r1.one
    obtain ⟨t0, t1⟩ := hI.r2.one
    have hg := hI.good
    obtain ⟨p0, p1, p2, p3, p4⟩ := put3 hI (.slice ao' (wl z n 1100 0).length cap') (.int .i64 (n : Nat)) (.int .i64 0)
    have HR : Hid (RetLx w z n (.returned (.tuple #[.slice ao' (wl z n 1100 0).length cap', .int .i64 (n : Nat), .int .i64 0])) (((((W.setCell ⟨w.heap.size, 0, none⟩ (.slice ao' (wl z n 1100 0).length cap')).setCell ⟨w.heap.size + 1, 0, none⟩ (.int .i64 (n : Nat))).setCell ⟨w.heap.size + 1 + 1, 0, none⟩ (.int .i64 0)).putObj w1.heap.size (.deferred none)))) := by
      refine .inl ⟨ao', cap', hg, rfl, ownsRow_base (ownsRow_at (ownsRow_at hrow fun g hg _ => p4 g (by omega) (by omega) (by omega)) fun g hg _ => World.putObj_heap_other (by omega)) (by omega), ?_⟩
      exact (Turn.put (b := w1.heap.size) (w1.heap.size) _ ⟨Nat.le_refl _, by omega⟩).below p3 (by omega) (Nat.le_trans (Nat.le_of_lt p0.lt) (Nat.le_refl _))
    have q0 := (p0.same (World.putObj_heap_other (r := w1.heap.size) (o := .deferred none) (by omega))).one.1
    have q1 := (p1.same (World.putObj_heap_other (r := w1.heap.size) (o := .deferred none) (by omega))).one.1
    have q2 := (p2.same (World.putObj_heap_other (r := w1.heap.size) (o := .deferred none) (by omega))).one.1
    have hD2 := (p4 w1.heap.size (by omega) (by omega) (by omega)).trans hD
    clear p0 p1 p2 p3 p4 hI hrow hg hv hold hP0 hI0 hB0 hr
    generalize (wl z n 1100 0).length = len at *
    gi_wp2
    refine ⟨by simp, .inl ⟨_, _, rfl, run_takeDeferred hD2, ?_⟩⟩
    exact ⟨.tuple #[.slice ao' len cap', .int .i64 (n : Nat), .int .i64 0], by simp [results, Try.results4, go_sem, q0, q1, q2], HR.out⟩
  case stop =>
    rintro pre W hSp ⟨-, ⟨s, hs1, he, h1, h2⟩, h0, hb⟩ hD
    have HR : Hid (RetLx w z n (.returned (.tuple #[.slice none 0 0, .int .i64 (s.en : Nat), .int .i64 s.er])) (W.putObj w1.heap.size (.deferred none))) :=
      .inr ⟨s, hSp.subset hs1, he, rfl, (Turn.put (b := w1.heap.size) (w1.heap.size) _ ⟨Nat.le_refl _, by omega⟩).below hb (by omega) (Nat.le_of_lt h0.lt)⟩
    have q0 := (h0.same (World.putObj_heap_other (r := w1.heap.size) (o := .deferred none) (by omega))).one.1
    have q1 := (h1.same (World.putObj_heap_other (r := w1.heap.size) (o := .deferred none) (by omega))).one.1
    have q2 := (h2.same (World.putObj_heap_other (r := w1.heap.size) (o := .deferred none) (by omega))).one.1
    clear h0 h1 h2 hb hSp hs1 he hold hP0 hI0 hB0 hr
    gi_wp2
    refine ⟨by simp, .inl ⟨_, _, rfl, run_takeDeferred hD, ?_⟩⟩
    exact ⟨.tuple #[.slice none 0 0, .int .i64 (s.en : Nat), .int .i64 s.er], by simp [results, Try.results4, go_sem, q0, q1, q2], HR.out⟩
set_option maxRecDepth 10000 in
set_option maxHeartbeats 400000 in
theorem lex_long (ao : Option Addr) (n cap : Nat) (w : World) (hn : (n : Int) > 1024) : Calls Try.prog 4 #[.slice ao n cap] w fun e w' => e = .returned (.tuple #[.slice none 0 0, .int .i64 0, .int .i64 3]) ∧ Below w.heap.size w w' := by
  go_enter Try.func4, Try.ntmps4
  go_wp2
  exact bodyPost_ret (v := .tuple #[.slice none 0 0, .int .i64 0, .int .i64 3]) (by simp [results, Try.results4, go_sem]) rfl ⟨rfl, bel3 _ _ _ _⟩
end Go.Proofs.Ytkbeiadbolihiab
