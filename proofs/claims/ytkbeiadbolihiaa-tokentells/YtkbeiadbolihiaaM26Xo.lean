/- token: Lex as a whole. Tokens held against each other; rows read; the words of a pattern follow each other. slices.Equal of tokens, where both are the same: the walk. -/
import Derived.Test.YtkbeiadbolihiaaM25Xn
import Derived.Laws.StructEq
namespace Go.Proofs.Ytkbeiadbolihiaa
open Go.RowKit Go.Shelf
attribute [local go_sem] Oper.semAt_some
set_option maxRecDepth 100000 in
set_option maxHeartbeats 2000000 in
theorem lex_short (ao : Option Addr) (n cap : Nat) (z : Nat → Nat) (w : World) (hr : Rd w ao n z) (hn : (n : Int) ≤ 1024) : Calls Try.prog 5 #[.slice ao n cap] w (RetLx w z n) := by
  have hgt : ¬ ((n : Int) > 1024) := by omega
  have hB0 : Below w.heap.size w (((((w.alloc (.cells #[.slice none 0 0] 23)).alloc (.cells #[.int .i64 0] 3)).alloc (.cells #[.int .i64 0] 24)).alloc (.cells #[.slice none 0 0] 23)).alloc (.cells #[.slice ao n cap] 22)) := (bel4 w _ _ _ _).alloc (by simp; omega) _
  have hI0 : LxI w [] (((((w.alloc (.cells #[.slice none 0 0] 23)).alloc (.cells #[.int .i64 0] 3)).alloc (.cells #[.int .i64 0] 24)).alloc (.cells #[.slice none 0 0] 23)).alloc (.cells #[.slice ao n cap] 22)) := by
    refine ⟨⟨.slice none 0 0, ?_, World.ownsRow_nil _ _ _ _⟩, ?_, ?_, ?_, hB0, fun s hs => by cases hs⟩
    · have := (Cl.new (((w.alloc (.cells #[.slice none 0 0] 23)).alloc (.cells #[.int .i64 0] 3)).alloc (.cells #[.int .i64 0] 24)) 23 [.slice none 0 0]).alloc (.cells #[.slice ao n cap] 22)
      simpa using this
    · exact ((((Cl.new w 23 [.slice none 0 0]).alloc _).alloc _).alloc _).alloc _
    · have := (((Cl.new (w.alloc (.cells #[.slice none 0 0] 23)) 3 [.int .i64 0]).alloc (.cells #[.int .i64 0] 24)).alloc (.cells #[.slice none 0 0] 23)).alloc (.cells #[.slice ao n cap] 22)
      simpa using this
    · have := ((Cl.new ((w.alloc (.cells #[.slice none 0 0] 23)).alloc (.cells #[.int .i64 0] 3)) 24 [.int .i64 0]).alloc (.cells #[.slice none 0 0] 23)).alloc (.cells #[.slice ao n cap] 22)
      simpa using this
  have hP0 : Cl (((((w.alloc (.cells #[.slice none 0 0] 23)).alloc (.cells #[.int .i64 0] 3)).alloc (.cells #[.int .i64 0] 24)).alloc (.cells #[.slice none 0 0] 23)).alloc (.cells #[.slice ao n cap] 22)) (w.heap.size + 1 + 1 + 1 + 1) 22 [.slice ao n cap] := by
    have := Cl.new ((((w.alloc (.cells #[.slice none 0 0] 23)).alloc (.cells #[.int .i64 0] 3)).alloc (.cells #[.int .i64 0] 24)).alloc (.cells #[.slice none 0 0] 23)) 22 [.slice ao n cap]
    simpa using this
  have hW := words_any ao n cap
  refine (callsIn_wide (n := 5)).1 ?_
  refine callsIn_of_wp_marks Try.func5 rfl trivial ?_ rfl
  simp only [Try.ntmps5, List.size_toArray, List.length_cons, List.length_nil, Nat.reduceAdd, Nat.reduceSub, Array.replicate_succ, Array.replicate_zero, List.push_toArray, List.append_toArray, List.nil_append, List.cons_append]
  gi_wp2_with (refine ⟨trivial, ?_⟩; gi_at_call 12; refine (callsIn_wide.2 (hW _)).mono ?_; rintro e w1 ⟨rfl, rfl⟩)
  generalize hw1 : ((((w.alloc (.cells #[.slice none 0 0] 23)).alloc (.cells #[.int .i64 0] 3)).alloc (.cells #[.int .i64 0] 24)).alloc (.cells #[.slice none 0 0] 23)).alloc (.cells #[.slice ao n cap] 22) = w1 at *
  have hs : w1.heap.size = w.heap.size + 5 := by rw [← hw1]; simp
  have hold : ∀ k, k < w.heap.size → w1.heap[k]? = w.heap[k]? := fun k hk => hB0.block k hk
  clear hw1 hW
  obtain ⟨i0, hi, hz0, hz1, hz2⟩ := info_parts b_tok
  refine wpIn_rangeFunc_turn (n := 5) rfl (by decide) (gf := 16) (lb := #[.pointer (some ⟨w.heap.size + 1 + 1 + 1 + 1, 0, none⟩)]) rfl trivial (enters_of Try.func16 (by kernel_rfl) rfl)
    (encs := fun s : TokS => #[tokOf s, markV s.en s.er]) (S := fun ys => ys = wl z n 1100 0) (Sp := fun pre => pre <+: wl z n 1100 0) (N := 1024) (LxOld w) (fun k hk => by unfold LxOld at hk; omega)
    (words_seq 4 (by decide) w w1 (w.heap.size + 1 + 1 + 1 + 1) (LxOld w) (fun _ h => h) ao n cap z hr hn hP0 hold (by omega)) (fun _ => rfl)
    (LxI w) (fun c pre W => c = .ret ∧ LxX w pre W) (fun s A B h ht => h.turn (hs ▸ ht)) (fun c s A B h ht => ⟨h.1, h.2.turn (hs ▸ ht)⟩) hI0
    (LxA w ao n cap) (fun x a' A B h ht => ?_) ?assign ?body ?done ?stop
  · obtain ⟨p, hp, e, h1, h2⟩ := h
    exact ⟨p, hp, e, h1.turn ht (by omega), h2.turn ht (by omega)⟩
  case assign =>
    intro pre x W K hI hsz hK
    rw [hs] at hsz
    have HX : Hid (LxA w ao n cap x ⟨#[.slice ao n cap, undef, .pointer (some ⟨w.heap.size, 0, none⟩), .pointer (some ⟨w.heap.size + 1, 0, none⟩), .pointer (some ⟨w.heap.size + 1 + 1, 0, none⟩), .pointer (some ⟨w.heap.size + 1 + 1 + 1, 0, none⟩), .pointer (some ⟨W.heap.size, 0, none⟩), .pointer (some ⟨W.heap.size + 1, 0, none⟩), .slice ao n cap, .int .i64 (n : Nat), .bool false, .slice ao n cap, .func (.func 16) #[] #[.pointer (some ⟨w.heap.size + 1 + 1 + 1 + 1, 0, none⟩)], tokOf x, markV x.en x.er, undef, undef, undef, undef, undef, undef, undef, undef, undef, undef, undef, undef, undef, undef], []⟩ ((W.alloc (.cells #[.int .i64 x.k, .int .u8 (x.b : Nat), .int .u64 (wds x.P 0 : Nat), .int .u64 (wds x.P 1 : Nat), .int .u64 (wds x.P 2 : Nat), .int .u64 (wds x.P 3 : Nat), .bool x.nt, .int .i64 x.l, .int .i64 x.m, .bool x.lz, .int .i64 (x.at_ : Nat)] 33)).alloc (.cells #[.int .i64 (x.en : Nat), .int .i64 x.er] 45))) := by
      refine ⟨W.heap.size, by omega, rfl, (Cl.new W 33 _).alloc _, ?_⟩
      have := Cl.new (W.alloc (.cells #[.int .i64 x.k, .int .u8 (x.b : Nat), .int .u64 (wds x.P 0 : Nat), .int .u64 (wds x.P 1 : Nat), .int .u64 (wds x.P 2 : Nat), .int .u64 (wds x.P 3 : Nat), .bool x.nt, .int .i64 x.l, .int .i64 x.m, .bool x.lz, .int .i64 (x.at_ : Nat)] 33)) 45 [.int .i64 (x.en : Nat), .int .i64 x.er]
      simpa using this
    have HI : Hid (LxI w pre ((W.alloc (.cells #[.int .i64 x.k, .int .u8 (x.b : Nat), .int .u64 (wds x.P 0 : Nat), .int .u64 (wds x.P 1 : Nat), .int .u64 (wds x.P 2 : Nat), .int .u64 (wds x.P 3 : Nat), .bool x.nt, .int .i64 x.l, .int .i64 x.m, .bool x.lz, .int .i64 (x.at_ : Nat)] 33)).alloc (.cells #[.int .i64 (x.en : Nat), .int .i64 x.er] 45))) := hI.turn (Turn.of_below (bel2 W _ _))
    have HT : Hid (KeepT w1.heap.size (LxOld w) W ((W.alloc (.cells #[.int .i64 x.k, .int .u8 (x.b : Nat), .int .u64 (wds x.P 0 : Nat), .int .u64 (wds x.P 1 : Nat), .int .u64 (wds x.P 2 : Nat), .int .u64 (wds x.P 3 : Nat), .bool x.nt, .int .i64 x.l, .int .i64 x.m, .bool x.lz, .int .i64 (x.at_ : Nat)] 33)).alloc (.cells #[.int .i64 (x.en : Nat), .int .i64 x.er] 45))) := by rw [hs]; exact KeepT.of_below (bel2 W _ _) (by omega)
    clear hI hold hP0 hI0 hB0 hr
    unfold tokOf markV tokV at *
    gi_wp2
    exact hK _ _ HT.out HI.out HX.out
  case body =>
    rintro pre x a' W hI ⟨p, hp, rfl, ht, hm⟩ hsz hlen
    rw [hs] at hsz
    obtain ⟨v, hv, hrow⟩ := hI.row
    obtain ⟨⟨m0, m1⟩, n0, n1⟩ := hm.two
    obtain ⟨v0, v1⟩ := hv.one
    by_cases he : x.er = 0
    · have h9 : (x.er != 0) = false := by simp [he]
      have HC : Hid (Cl W p 33 [.int .i64 x.k, .int .u8 (x.b : Nat), .int .u64 (wds x.P 0 : Nat), .int .u64 (wds x.P 1 : Nat), .int .u64 (wds x.P 2 : Nat), .int .u64 (wds x.P 3 : Nat), .bool x.nt, .int .i64 x.l, .int .i64 x.m, .bool x.lz, .int .i64 (x.at_ : Nat)]) := ht
      obtain ⟨c0, c1, c2, c3, c4, c5, c6, c7, c8, c9, c10⟩ := HC.out.eleven.1
      obtain ⟨ao', cap', rfl⟩ := ownsRow_slice hrow
      have HS : Hid (∀ v' w2, w2.ownsRow (w.heap.size + 9) 33 11 v' (pre.length + 1) (tokL pre ++ [.int .i64 x.k, .int .u8 (x.b : Nat), .int .u64 (wds x.P 0 : Nat), .int .u64 (wds x.P 1 : Nat), .int .u64 (wds x.P 2 : Nat), .int .u64 (wds x.P 3 : Nat), .bool x.nt, .int .i64 x.l, .int .i64 x.m, .bool x.lz, .int .i64 (x.at_ : Nat)]) → (W.alloc (.cells #[.int .i64 x.k, .int .u8 (x.b : Nat), .int .u64 (wds x.P 0 : Nat), .int .u64 (wds x.P 1 : Nat), .int .u64 (wds x.P 2 : Nat), .int .u64 (wds x.P 3 : Nat), .bool x.nt, .int .i64 x.l, .int .i64 x.m, .bool x.lz, .int .i64 (x.at_ : Nat)] 33)).grownBy w2 (Value.slice ao' pre.length cap').ownBlock → _) := fun v' w2 ho hg => lx_step (x := x) hI he hsz hv hrow ho hg
      have hb : (pre.length : Int) < 1024 := by omega
      clear ht hm hI hv hold hP0 hI0 hB0 hr he
      unfold tokOf markV tokV
      generalize wds x.P 0 = a0 at *
      generalize wds x.P 1 = a1 at *
      generalize wds x.P 2 = a2 at *
      generalize wds x.P 3 = a3 at *
      gi_wp2_with (gi_at_builtin; refine wpListIn_append_own _ rfl _ _ 23 rfl (w.heap.size + 9) 33 i0 (.agg #[.int .i64 0, .int .u8 0, .int .u64 0, .int .u64 0, .int .u64 0, .int .u64 0, .bool false, .int .i64 0, .int .i64 0, .bool false, .int .i64 0]) 11 88 Try.underlying23 hi hz0 hz1 hz2 rfl (by decide) _ _ _ rfl (hrow.alloc _) ⟨W.heap.size, 0, none⟩ 1 1 [.int .i64 x.k, .int .u8 (x.b : Nat), .int .u64 (a0 : Nat), .int .u64 (a1 : Nat), .int .u64 (a2 : Nat), .int .u64 (a3 : Nat), .bool x.nt, .int .i64 x.l, .int .i64 x.m, .bool x.lz, .int .i64 (x.at_ : Nat)] rfl rfl (eleven_new _ _ _ _ _ _ _ _ _ _ _ _ _) (by simp [Value.oneCell']) (by unfold maxLen; omega) (by omega) (by simp; omega) ?_; intro v' w2 hown' hgrow _; obtain ⟨hv2, hk2, hi2⟩ := HS.out v' w2 hown' hgrow; obtain ⟨ao2, cap2, rfl⟩ := ownsRow_slice hown'; obtain ⟨q0, q1⟩ := hv2.one; have HZ : Hid (_ ∧ _) := ⟨hk2, hi2⟩; clear hk2 hi2 hv2 hgrow)
      exact ⟨by rw [hs]; exact HZ.out.1, HZ.out.2⟩
    · have h9 : (x.er != 0) = true := by simp [he]
      obtain ⟨p0, p1, p2, p3, p4⟩ := put3 hI (.slice none 0 0) (.int .i64 (x.en : Nat)) (.int .i64 x.er)
      have HX : Hid (LxX w (pre ++ [x]) ((((W.setCell ⟨w.heap.size, 0, none⟩ (.slice none 0 0)).setCell ⟨w.heap.size + 1, 0, none⟩ (.int .i64 (x.en : Nat))).setCell ⟨w.heap.size + 1 + 1, 0, none⟩ (.int .i64 x.er)).drew)) := ⟨⟨x, by simp, he, p1.drew, p2.drew⟩, p0.drew, p3.drew⟩
      have HK : Hid (KeepT w1.heap.size (LxOld w) W ((((W.setCell ⟨w.heap.size, 0, none⟩ (.slice none 0 0)).setCell ⟨w.heap.size + 1, 0, none⟩ (.int .i64 (x.en : Nat))).setCell ⟨w.heap.size + 1 + 1, 0, none⟩ (.int .i64 x.er)).drew)) := ⟨by show W.heap.size ≤ (((W.setCell _ _).setCell _ _).setCell _ _).heap.size; simp, fun k hk => by rw [hs] at hk; unfold LxOld at hk; exact p4 k (by omega) (by omega) (by omega)⟩
      obtain ⟨r0, r1⟩ := hI.r0.one
      obtain ⟨s0, s1⟩ := hI.r1.one
      obtain ⟨t0, t1⟩ := hI.r2.one
      have hmo : Try.prog.follows .mixedOrders = true := by kernel_rfl
      have np : p ≠ w.heap.size ∧ p ≠ w.heap.size + 1 ∧ p ≠ w.heap.size + 1 + 1 ∧ p + 1 ≠ w.heap.size ∧ p + 1 ≠ w.heap.size + 1 ∧ p + 1 ≠ w.heap.size + 1 + 1 := by omega
      obtain ⟨np0, np1, np2, np3, np4, np5⟩ := np
      clear ht hm hI hv hold hP0 hI0 hB0 hr he hrow p0 p1 p2 p3 p4
      unfold tokOf markV tokV
      gi_wp2_with fail
      gi_region_with_o (fail)
      all_goals gi_wp2
      all_goals exact ⟨HK.out, rfl, HX.out⟩
  case done =>
    rintro xs W rfl hI hD
    obtain ⟨v, hv, hrow⟩ := hI.row
    obtain ⟨ao', cap', rfl⟩ := ownsRow_slice hrow
    obtain ⟨v0, v1⟩ := hv.one
    obtain ⟨r0, r1⟩ := hI.r0.one
    obtain ⟨s0, s1⟩ := hI.r1.one
    obtain ⟨t0, t1⟩ := hI.r2.one
    have hg := hI.good
    obtain ⟨p0, p1, p2, p3, p4⟩ := put3 hI (.slice ao' (wl z n 1100 0).length cap') (.int .i64 (n : Nat)) (.int .i64 0)
    have HR : Hid (RetLx w z n (.returned (.tuple #[.slice ao' (wl z n 1100 0).length cap', .int .i64 (n : Nat), .int .i64 0])) (((((W.setCell ⟨w.heap.size, 0, none⟩ (.slice ao' (wl z n 1100 0).length cap')).setCell ⟨w.heap.size + 1, 0, none⟩ (.int .i64 (n : Nat))).setCell ⟨w.heap.size + 1 + 1, 0, none⟩ (.int .i64 0)).putObj w1.heap.size (.deferred none)))) := by
      refine .inl ⟨ao', cap', hg, rfl, ownsRow_base (ownsRow_at (ownsRow_at hrow fun g hg _ => p4 g (by omega) (by omega) (by omega)) fun g hg _ => World.putObj_heap_other (by omega)) (by omega), ?_⟩
      exact (Turn.put (b := w1.heap.size) (w1.heap.size) _ ⟨Nat.le_refl _, by omega⟩).below p3 (by omega) (Nat.le_trans (Nat.le_of_lt p0.lt) (Nat.le_refl _))
    have q0 := (p0.same (World.putObj_heap_other (r := w1.heap.size) (o := .deferred none) (by omega))).one.1
    have q1 := (p1.same (World.putObj_heap_other (r := w1.heap.size) (o := .deferred none) (by omega))).one.1
    have q2 := (p2.same (World.putObj_heap_other (r := w1.heap.size) (o := .deferred none) (by omega))).one.1
    have hD2 := (p4 w1.heap.size (by omega) (by omega) (by omega)).trans hD
    clear p0 p1 p2 p3 p4 hI hrow hg hv hold hP0 hI0 hB0 hr
    generalize (wl z n 1100 0).length = len at *
    gi_wp2
    refine ⟨by simp, .inl ⟨_, _, rfl, run_takeDeferred hD2, ?_⟩⟩
    exact ⟨.tuple #[.slice ao' len cap', .int .i64 (n : Nat), .int .i64 0], by simp [results, Try.results5, go_sem, q0, q1, q2], HR.out⟩
  case stop =>
    rintro pre W hSp ⟨-, ⟨s, hs1, he, h1, h2⟩, h0, hb⟩ hD
    have HR : Hid (RetLx w z n (.returned (.tuple #[.slice none 0 0, .int .i64 (s.en : Nat), .int .i64 s.er])) (W.putObj w1.heap.size (.deferred none))) :=
      .inr ⟨s, hSp.subset hs1, he, rfl, (Turn.put (b := w1.heap.size) (w1.heap.size) _ ⟨Nat.le_refl _, by omega⟩).below hb (by omega) (Nat.le_of_lt h0.lt)⟩
    have q0 := (h0.same (World.putObj_heap_other (r := w1.heap.size) (o := .deferred none) (by omega))).one.1
    have q1 := (h1.same (World.putObj_heap_other (r := w1.heap.size) (o := .deferred none) (by omega))).one.1
    have q2 := (h2.same (World.putObj_heap_other (r := w1.heap.size) (o := .deferred none) (by omega))).one.1
    clear h0 h1 h2 hb hSp hs1 he hold hP0 hI0 hB0 hr
    gi_wp2
    refine ⟨by simp, .inl ⟨_, _, rfl, run_takeDeferred hD, ?_⟩⟩
    exact ⟨.tuple #[.slice none 0 0, .int .i64 (s.en : Nat), .int .i64 s.er], by simp [results, Try.results5, go_sem, q0, q1, q2], HR.out⟩
set_option maxRecDepth 10000 in
set_option maxHeartbeats 400000 in
theorem lex_long (ao : Option Addr) (n cap : Nat) (w : World) (hn : (n : Int) > 1024) : Calls Try.prog 5 #[.slice ao n cap] w fun e w' => e = .returned (.tuple #[.slice none 0 0, .int .i64 0, .int .i64 3]) ∧ Below w.heap.size w w' := by
  go_enter Try.func5, Try.ntmps5
  go_wp2
  exact bodyPost_ret (v := .tuple #[.slice none 0 0, .int .i64 0, .int .i64 3]) (by simp [results, Try.results5, go_sem]) rfl ⟨rfl, bel3 _ _ _ _⟩
end Go.Proofs.Ytkbeiadbolihiaa
namespace Go.Proofs.Ytkbeiadbolihiaa
open Go.RowKit
theorem eql4_same (a b c d : Int) (m : Nat) (w : World) : (Op.equalIn (9998 + 1) 31 (.agg #[.int .u64 a, .int .u64 b, .int .u64 c, .int .u64 d]) (.agg #[.int .u64 a, .int .u64 b, .int .u64 c, .int .u64 d])).run Try.prog w = .ok true w ∧ m = m := by
  obtain ⟨j, hj, _⟩ := Option.map_eq_some_iff.1 (show (Try.prog.info? 29).map (·.size) = some 1 by kernel_rfl)
  refine ⟨?_, rfl⟩
  rw [run_equalIn_array w 9998 _ _ Try.underlying31 hj, show List.range 4 = [0, 1, 2, 3] from rfl]
  simp only [Op.eqItems, Sem.run_bind, part0, part1, part2, part3, Result.andThen_ok, eq24 9997, beq_self_eq_true, Bool.not_true, Bool.false_eq_true, if_false, Sem.run_pure]
/-- A token is the same as itself. -/
theorem eql32_same (k : Int) (b a0 a1 a2 a3 : Nat) (nt : Bool) (l m : Int) (lz : Bool) (at_ : Nat) (w : World) :
    (Go.binOp BinOp.eql 33 (tokV k b a0 a1 a2 a3 nt l m lz at_) (tokV k b a0 a1 a2 a3 nt l m lz at_)).run Try.prog w = Result.ok (.bool true) w := by
  have f32 : Try.prog.fieldsOf 33 = #[{ name := "Kind", type := 3, offset := 0, embedded := false, tag := "", pkgPath := "", byteOffset := 0 }, { name := "Byte", type := 5, offset := 1, embedded := false, tag := "", pkgPath := "", byteOffset := 8 }, { name := "Class", type := 31, offset := 2, embedded := false, tag := "", pkgPath := "", byteOffset := 16 }, { name := "Not", type := 4, offset := 6, embedded := false, tag := "", pkgPath := "", byteOffset := 48 }, { name := "Least", type := 3, offset := 7, embedded := false, tag := "", pkgPath := "", byteOffset := 56 }, { name := "Most", type := 3, offset := 8, embedded := false, tag := "", pkgPath := "", byteOffset := 64 }, { name := "Lazy", type := 4, offset := 9, embedded := false, tag := "", pkgPath := "", byteOffset := 72 }, { name := "At", type := 3, offset := 10, embedded := false, tag := "", pkgPath := "", byteOffset := 80 }] := by kernel_rfl
  unfold tokV
  have h : (Op.equalIn (9999 + 1) 33 (.agg #[.int .i64 k, .int .u8 (b : Nat), .int .u64 (a0 : Nat), .int .u64 (a1 : Nat), .int .u64 (a2 : Nat), .int .u64 (a3 : Nat), .bool nt, .int .i64 l, .int .i64 m, .bool lz, .int .i64 (at_ : Nat)]) (.agg #[.int .i64 k, .int .u8 (b : Nat), .int .u64 (a0 : Nat), .int .u64 (a1 : Nat), .int .u64 (a2 : Nat), .int .u64 (a3 : Nat), .bool nt, .int .i64 l, .int .i64 m, .bool lz, .int .i64 (at_ : Nat)])).run Try.prog w = .ok true w := by
    rw [run_equalIn_struct w 9999 33 _ _ (by kernel_rfl) (by kernel_rfl), f32]
    have q0 : ∀ (x0 x1 x2 x3 x4 x5 x6 x7 x8 x9 x10 : Value) w, (part 3 #[x0, x1, x2, x3, x4, x5, x6, x7, x8, x9, x10] 0).run Try.prog w = .ok x0 w := fun _ _ _ _ _ _ _ _ _ _ _ w => by kernel_rfl
    have q1 : ∀ (x0 x1 x2 x3 x4 x5 x6 x7 x8 x9 x10 : Value) w, (part 5 #[x0, x1, x2, x3, x4, x5, x6, x7, x8, x9, x10] 1).run Try.prog w = .ok x1 w := fun _ _ _ _ _ _ _ _ _ _ _ w => by kernel_rfl
    have q2 : ∀ (x0 x1 x2 x3 x4 x5 x6 x7 x8 x9 x10 : Value) w, (part 31 #[x0, x1, x2, x3, x4, x5, x6, x7, x8, x9, x10] 2).run Try.prog w = .ok (.agg #[x2, x3, x4, x5]) w := fun _ _ _ _ _ _ _ _ _ _ _ w => by kernel_rfl
    have q3 : ∀ (x0 x1 x2 x3 x4 x5 x6 x7 x8 x9 x10 : Value) w, (part 4 #[x0, x1, x2, x3, x4, x5, x6, x7, x8, x9, x10] 6).run Try.prog w = .ok x6 w := fun _ _ _ _ _ _ _ _ _ _ _ w => by kernel_rfl
    have q4 : ∀ (x0 x1 x2 x3 x4 x5 x6 x7 x8 x9 x10 : Value) w, (part 3 #[x0, x1, x2, x3, x4, x5, x6, x7, x8, x9, x10] 7).run Try.prog w = .ok x7 w := fun _ _ _ _ _ _ _ _ _ _ _ w => by kernel_rfl
    have q5 : ∀ (x0 x1 x2 x3 x4 x5 x6 x7 x8 x9 x10 : Value) w, (part 3 #[x0, x1, x2, x3, x4, x5, x6, x7, x8, x9, x10] 8).run Try.prog w = .ok x8 w := fun _ _ _ _ _ _ _ _ _ _ _ w => by kernel_rfl
    have q6 : ∀ (x0 x1 x2 x3 x4 x5 x6 x7 x8 x9 x10 : Value) w, (part 4 #[x0, x1, x2, x3, x4, x5, x6, x7, x8, x9, x10] 9).run Try.prog w = .ok x9 w := fun _ _ _ _ _ _ _ _ _ _ _ w => by kernel_rfl
    have q7 : ∀ (x0 x1 x2 x3 x4 x5 x6 x7 x8 x9 x10 : Value) w, (part 3 #[x0, x1, x2, x3, x4, x5, x6, x7, x8, x9, x10] 10).run Try.prog w = .ok x10 w := fun _ _ _ _ _ _ _ _ _ _ _ w => by kernel_rfl
    have e3 : ∀ (z : Int) w, (Op.equalIn 9999 3 (.int .i64 z) (.int .i64 z)).run Try.prog w = .ok true w := fun z w => by
      rw [run_equalIn_int w 9998 3 _ _ _ _ Try.underlying3]; simp
    have e5 : ∀ (z : Int) w, (Op.equalIn 9999 5 (.int .u8 z) (.int .u8 z)).run Try.prog w = .ok true w := fun z w => by
      rw [run_equalIn_int w 9998 5 _ _ _ _ Try.underlying5]; simp
    have e4 : ∀ (z : Bool) w, (Op.equalIn 9999 4 (.bool z) (.bool z)).run Try.prog w = .ok true w := fun z w => by
      rw [run_equalIn_bool' w 9998 4 _ _ Try.underlying4]; simp
    have e30 : ∀ (a b c d : Int) w, (Op.equalIn 9999 31 (.agg #[.int .u64 a, .int .u64 b, .int .u64 c, .int .u64 d]) (.agg #[.int .u64 a, .int .u64 b, .int .u64 c, .int .u64 d])).run Try.prog w = .ok true w := fun a b c d w => (eql4_same a b c d 0 w).1
    simp [Op.eqFields, q0, q1, q2, q3, q4, q5, q6, q7, e3, e4, e5, e30]
  simp only [binOp]
  simp only [Op.equal, Op.maxDepth, Sem.run_bind, h, Result.andThen_ok]
  simp
/-- The cells of a row that is read. -/
theorem row_cell {W : World} {base e size n cap : Nat} {ao : Option Addr} {xs : List Value} (h : W.ownsRow base e size (.slice ao n cap) n xs) (hn : 0 < n) :
    ∃ g, ao = some ⟨g, 0, none⟩ ∧ g < W.heap.size ∧ base ≤ g ∧ ∀ j u, xs[j]? = some u → W.cell? ⟨g, j, none⟩ = some u := by
  rcases h.2 with ⟨_, h0⟩ | ⟨g, cap', cur, hv, hg, hc, _, _, _, hx⟩
  · omega
  · cases hv
    refine ⟨g, rfl, (Array.getElem?_eq_some_iff.1 hc).1, hg, fun j u hj => ?_⟩
    rw [← hx, List.getElem?_take] at hj
    split at hj
    · rw [cell_of_row W g j _ e (0, 0) hc]
      simpa using hj
    · cases hj
theorem tokL_get (l : List TokS) (k j : Nat) (hk : k < l.length) (hj : j < 11) : (tokL l)[k * 11 + j]? = (tokC l[k])[j]? := by
  induction l generalizing k with
  | nil => simp at hk
  | cons s l ih =>
    have e : tokL (s :: l) = tokC s ++ tokL l := by simp [tokL]
    have hl : (tokC s).length = 11 := rfl
    rw [e]
    cases k with
    | zero => rw [List.getElem?_append_left (by omega)]; simp
    | succ k =>
      rw [List.getElem?_append_right (by omega), hl, show (k + 1) * 11 + j - 11 = k * 11 + j by omega]
      exact ih k (by simpa using hk)
/-- The words follow each other. -/
theorem wl_chain {z : Nat → Nat} {n : Nat} : ∀ f i, i ≤ n → n - i < f → (∀ s, s ∈ wl z n f i → s.er = 0) →
    ((wl z n f i).length = 0 ↔ n ≤ i) ∧ ∀ k (hk : k < (wl z n f i).length), (wl z n f i)[k] = wrd z n (wl z n f i)[k].at_ ∧ (wl z n f i)[k].at_ < n ∧ (k = 0 → (wl z n f i)[k].at_ = i) ∧ ((hk' : k + 1 < (wl z n f i).length) → (wl z n f i)[k].en = (wl z n f i)[k + 1].at_) ∧ (k + 1 = (wl z n f i).length → (wl z n f i)[k].en = n) := by
  intro f
  induction f with
  | zero => intro i _ h; omega
  | succ f ih =>
    intro i hi hf hg
    by_cases hin : n ≤ i
    · rw [wl_end hin] at *
      exact ⟨by simp [hin], fun k hk => by simp at hk⟩
    have hin' : i < n := by omega
    by_cases he : (wrd z n i).er = 0
    · have hw := wrd_lt hin' he
      have hx : ∀ s, s ∈ wl z n f (wrd z n i).en → s.er = 0 := fun s hs => hg s (by rw [wl_go hin' he]; exact List.mem_cons_of_mem _ hs)
      have h := ih (wrd z n i).en hw.2.1 (by omega) hx
      have e := wl_go (f := f) hin' he
      generalize wl z n f (wrd z n i).en = l at *
      rw [e]
      refine ⟨by simp; omega, fun k hk => ?_⟩
      cases k with
      | zero =>
        refine ⟨by simp [hw.2.2], by simp [hw.2.2, hin'], fun _ => by simp [hw.2.2], fun hk' => ?_, fun hk' => ?_⟩
        · simp only [List.getElem_cons_zero, List.getElem_cons_succ]
          exact ((h.2 0 (by simpa using hk')).2.2.1 rfl).symm
        · simp only [List.getElem_cons_zero]
          have h0 : l.length = 0 := by simpa using hk'
          have := h.1.1 h0
          omega
      | succ k =>
        have hk2 : k < l.length := by simpa using hk
        have hh := h.2 k hk2
        simp only [List.getElem_cons_succ]
        refine ⟨hh.1, hh.2.1, fun h => by omega, fun hk' => hh.2.2.2.1 (by simpa using hk'), fun hk' => hh.2.2.2.2 (by simpa using hk')⟩
    · exfalso
      exact he (hg _ (by rw [wl_bad hin' he]; simp))
/-- What lies from a word to the next is lexed to that word alone. -/
theorem wl_self {z : Nat → Nat} {n k : Nat} (hk : k < n) (e : (wrd z n k).er = 0) : wl (fun i => z (k + i)) ((wrd z n k).en - k) 1100 0 = [{ wrd z n k with at_ := 0, en := (wrd z n k).en - k }] := by
  have hlt := wrd_lt hk e
  have hs := wrd_self hk e
  rw [show (1100 : Nat) = 1099 + 1 from rfl, wl_go (by omega) (by rw [hs]; exact e), hs]
  simp only []
  rw [wl_end (Nat.le_refl _)]
end Go.Proofs.Ytkbeiadbolihiaa
namespace Go.Proofs.Ytkbeiadbolihiaa
open Go.RowKit Go.Shelf
theorem neq33_same (k : Int) (b a0 a1 a2 a3 : Nat) (nt : Bool) (l m : Int) (lz : Bool) (at_ : Nat) (w : World) :
    (Go.binOp BinOp.neq 33 (tokV k b a0 a1 a2 a3 nt l m lz at_) (tokV k b a0 a1 a2 a3 nt l m lz at_)).run Try.prog w = Result.ok (.bool false) w := by
  have h := eql32_same k b a0 a1 a2 a3 nt l m lz at_ w
  unfold tokV at *
  simp only [binOp] at h ⊢
  generalize Op.equal 33 _ _ = X at *
  rw [Sem.run_bind] at h ⊢
  generalize X.run Try.prog w = r at *
  cases r with
  | ok v w' => simp [Result.andThen, Sem.run_pure] at h ⊢; exact h
  | _ => simp [Result.andThen] at h
/-- The cells of the tokens of a row. -/
theorem row_tok {W : World} {base n cap : Nat} {ao : Option Addr} {ts : List TokS} (h : W.ownsRow base 33 11 (.slice ao n cap) n (tokL ts)) (hn : 0 < n) :
    ∃ g, ao = some ⟨g, 0, none⟩ ∧ ∀ k (hk : k < ts.length), W.cell? ⟨g, k * 11, none⟩ = some (.int .i64 ts[k].k) ∧ W.cell? ⟨g, k * 11 + 1, none⟩ = some (.int .u8 (ts[k].b : Nat)) ∧ W.cell? ⟨g, k * 11 + 2, none⟩ = some (.int .u64 (wds ts[k].P 0 : Nat)) ∧ W.cell? ⟨g, k * 11 + 3, none⟩ = some (.int .u64 (wds ts[k].P 1 : Nat)) ∧ W.cell? ⟨g, k * 11 + 4, none⟩ = some (.int .u64 (wds ts[k].P 2 : Nat)) ∧ W.cell? ⟨g, k * 11 + 5, none⟩ = some (.int .u64 (wds ts[k].P 3 : Nat)) ∧ W.cell? ⟨g, k * 11 + 6, none⟩ = some (.bool ts[k].nt) ∧ W.cell? ⟨g, k * 11 + 7, none⟩ = some (.int .i64 ts[k].l) ∧ W.cell? ⟨g, k * 11 + 8, none⟩ = some (.int .i64 ts[k].m) ∧ W.cell? ⟨g, k * 11 + 9, none⟩ = some (.bool ts[k].lz) ∧ W.cell? ⟨g, k * 11 + 10, none⟩ = some (.int .i64 (ts[k].at_ : Nat)) := by
  obtain ⟨g, rfl, _, _, hc⟩ := row_cell h hn
  refine ⟨g, rfl, fun k hk => ?_⟩
  have := fun j hj => tokL_get ts k j hk hj
  exact ⟨hc _ _ ((this 0 (by decide)).trans rfl), hc _ _ ((this 1 (by decide)).trans rfl), hc _ _ ((this 2 (by decide)).trans rfl), hc _ _ ((this 3 (by decide)).trans rfl), hc _ _ ((this 4 (by decide)).trans rfl), hc _ _ ((this 5 (by decide)).trans rfl), hc _ _ ((this 6 (by decide)).trans rfl), hc _ _ ((this 7 (by decide)).trans rfl), hc _ _ ((this 8 (by decide)).trans rfl), hc _ _ ((this 9 (by decide)).trans rfl), hc _ _ ((this 10 (by decide)).trans rfl)⟩
set_option maxRecDepth 10000 in
set_option maxHeartbeats 2000000 in
theorem equalT_same (ao bo : Option Addr) (n ca cb B C : Nat) (ts : List TokS) (w : World) (ha : w.ownsRow B 33 11 (.slice ao n ca) n (tokL ts)) (hb : w.ownsRow C 33 11 (.slice bo n cb) n (tokL ts)) (hl : ts.length = n) (hm : (n : Int) ≤ 65535) :
    Calls Try.prog 8 #[.slice ao n ca, .slice bo n cb] w fun e w' => e = .returned (.bool true) ∧ ∃ q, w' = w.drewN q := by
  have hn : ((n : Int) != (n : Int)) = false := by simp
  go_enter Try.func8, Try.ntmps8
  go_wp2_with fail
  go_loopw [13] (fun i wr => ∃ k : Nat, k ≤ n ∧ i = .int .i64 k ∧ ∃ q, wr = w.drewN q) (fun i _ => n - (intOf i).toNat)
  case atStart => exact ⟨0, Nat.zero_le _, rfl, 0, rfl⟩
  case round =>
    obtain ⟨k, hk, rfl, q, rfl⟩ := hrel
    by_cases hlt : k < n
    · obtain ⟨g, rfl, hc⟩ := row_tok ha (by omega)
      obtain ⟨g2, rfl, hc2⟩ := row_tok hb (by omega)
      obtain ⟨c0, c1, c2, c3, c4, c5, c6, c7, c8, c9, c10⟩ := hc k (by omega)
      obtain ⟨d0, d1, d2, d3, d4, d5, d6, d7, d8, d9, d10⟩ := hc2 k (by omega)
      have hki : (k : Int) < (n : Int) := by omega
      have hlk : k < ts.length := by omega
      have hne := neq33_same ts[k].k ts[k].b (wds ts[k].P 0) (wds ts[k].P 1) (wds ts[k].P 2) (wds ts[k].P 3) ts[k].nt ts[k].l ts[k].m ts[k].lz ts[k].at_
      unfold tokV at hne
      clear hc hc2 ha hb
      generalize ts[k] = x at *
      generalize wds x.P 0 = a0 at *
      generalize wds x.P 1 = a1 at *
      generalize wds x.P 2 = a2 at *
      generalize wds x.P 3 = a3 at *
      clear hl hlk
      go_wp2
      go_quiet (fail)
      go_wp2
      go_roundw
      case rel => exact ⟨k + 1, by omega, by go_num, _, rfl⟩
      case measure => simp [intOf]; omega
    · go_wp2
      go_ret
      exact ⟨rfl, _, rfl⟩
end Go.Proofs.Ytkbeiadbolihiaa
