/- token: the reference's SameAll of lists that are the same: the walk. token: Lex as a whole. Tokens held against each other; rows read; the words of a pattern follow each other. -/
import Derived.Test.YtkbeiadbolihiaaDoorM34Sm
import Derived.Laws.StructEq
namespace Go.Proofs.YtkbeiadbolihiaaDoor
open Go.RowKit Go.Shelf
/-- Two tokens are the same, wherever they stand. -/
def TkR.same (x y : TkR) : Prop := eqT x.k x.b x.a0 x.a1 x.a2 x.a3 x.nt x.l x.m x.lz y.t y.k y.b y.a0 y.a1 y.a2 y.a3 y.nt y.l y.m y.lz y.t = true
set_option maxRecDepth 20000 in
set_option maxHeartbeats 4000000 in
theorem sameAll_any (ao bo : Option Addr) (n ca cb : Nat) (F G : Nat → TkR) (w : World) (hr : RdK w ao n F) (hs : RdK w bo n G) (hn : (n : Int) ≤ 9223372036854775807) (he : ∀ i, i < n → (F i).same (G i)) : Calls Tryd.prog 18 #[.slice ao n ca, .slice bo n cb] w (RetB w true) := by
  go_enter Tryd.func18, Tryd.ntmps18
  go_wp2_with fail
  go_loopw [5] (fun i wr => ∃ k : Nat, k ≤ n ∧ i = .int .i64 (k : Nat) ∧ Below w.heap.size w wr) (fun i _ => n - (intOf i).toNat)
  case atStart => exact ⟨0, Nat.zero_le _, rfl, Below.refl _ _⟩
  case round =>
    obtain ⟨k, hk, rfl, hI⟩ := hrel
    by_cases hlt : k < n
    · obtain ⟨bb, off, rfl, hbb, hc⟩ := hr.at_ (by omega)
      obtain ⟨bd, of2, rfl, hbd, hd⟩ := hs.at_ (by omega)
      have hki : (k : Int) < (n : Int) := by omega
      have hke := he k hlt
      obtain ⟨c0, c1, c2, c3, c4, c5, c6, c7, c8, c9, c10⟩ := hc k hlt
      obtain ⟨d0, d1, d2, d3, d4, d5, d6, d7, d8, d9, d10⟩ := hd k hlt
      have hbw := Nat.lt_of_lt_of_le hbb hI.size
      have hbx := Nat.lt_of_lt_of_le hbd hI.size
      rw [← hI.cell (p := ⟨bb, off + k * 11, none⟩) hbb] at c0
      rw [← hI.cell (p := ⟨bd, of2 + k * 11, none⟩) hbd] at d0
      rw [← hI.cell (p := ⟨bb, off + k * 11 + 1, none⟩) hbb] at c1
      rw [← hI.cell (p := ⟨bd, of2 + k * 11 + 1, none⟩) hbd] at d1
      rw [← hI.cell (p := ⟨bb, off + k * 11 + 2, none⟩) hbb] at c2
      rw [← hI.cell (p := ⟨bd, of2 + k * 11 + 2, none⟩) hbd] at d2
      rw [← hI.cell (p := ⟨bb, off + k * 11 + 3, none⟩) hbb] at c3
      rw [← hI.cell (p := ⟨bd, of2 + k * 11 + 3, none⟩) hbd] at d3
      rw [← hI.cell (p := ⟨bb, off + k * 11 + 4, none⟩) hbb] at c4
      rw [← hI.cell (p := ⟨bd, of2 + k * 11 + 4, none⟩) hbd] at d4
      rw [← hI.cell (p := ⟨bb, off + k * 11 + 5, none⟩) hbb] at c5
      rw [← hI.cell (p := ⟨bd, of2 + k * 11 + 5, none⟩) hbd] at d5
      rw [← hI.cell (p := ⟨bb, off + k * 11 + 6, none⟩) hbb] at c6
      rw [← hI.cell (p := ⟨bd, of2 + k * 11 + 6, none⟩) hbd] at d6
      rw [← hI.cell (p := ⟨bb, off + k * 11 + 7, none⟩) hbb] at c7
      rw [← hI.cell (p := ⟨bd, of2 + k * 11 + 7, none⟩) hbd] at d7
      rw [← hI.cell (p := ⟨bb, off + k * 11 + 8, none⟩) hbb] at c8
      rw [← hI.cell (p := ⟨bd, of2 + k * 11 + 8, none⟩) hbd] at d8
      rw [← hI.cell (p := ⟨bb, off + k * 11 + 9, none⟩) hbb] at c9
      rw [← hI.cell (p := ⟨bd, of2 + k * 11 + 9, none⟩) hbd] at d9
      rw [← hI.cell (p := ⟨bb, off + k * 11 + 10, none⟩) hbb] at c10
      rw [← hI.cell (p := ⟨bd, of2 + k * 11 + 10, none⟩) hbd] at d10
      replace c0 := Near.cell c0 hbw
      replace d0 := Near.cell d0 hbx
      replace c1 := Near.cell c1 hbw
      replace d1 := Near.cell d1 hbx
      replace c2 := Near.cell c2 hbw
      replace d2 := Near.cell d2 hbx
      replace c3 := Near.cell c3 hbw
      replace d3 := Near.cell d3 hbx
      replace c4 := Near.cell c4 hbw
      replace d4 := Near.cell d4 hbx
      replace c5 := Near.cell c5 hbw
      replace d5 := Near.cell d5 hbx
      replace c6 := Near.cell c6 hbw
      replace d6 := Near.cell d6 hbx
      replace c7 := Near.cell c7 hbw
      replace d7 := Near.cell d7 hbx
      replace c8 := Near.cell c8 hbw
      replace d8 := Near.cell d8 hbx
      replace c9 := Near.cell c9 hbw
      replace d9 := Near.cell d9 hbx
      replace c10 := Near.cell c10 hbw
      replace d10 := Near.cell d10 hbx
      have H13 := fun W => same13 (F k).k (F k).b (F k).a0 (F k).a1 (F k).a2 (F k).a3 (F k).nt (F k).l (F k).m (F k).lz (F k).t (G k).k (G k).b (G k).a0 (G k).a1 (G k).a2 (G k).a3 (G k).nt (G k).l (G k).m (G k).lz (G k).t W
      unfold TkR.same at hke
      rw [hke] at H13
      unfold RetB tokI at H13
      have K13 : Hid (∀ W, _) := H13
      have HU : Hid (∀ u, Below w.heap.size w (near wr u)) := fun u => hI.trans ((near_below _ u).mono hI.size)
      clear hc hd H13 hke he hr hs
      generalize F k = q at *
      generalize G k = r at *
      go_wp2_with fail
      refine wp_region_quiet_tail 9 (fun w' => ∃ u : World, w' = near wr u) (by kernel_rfl) (by kernel_rfl) (Near.start _) ?_
      simp only [List.take_succ_cons, List.take_zero, List.drop_succ_cons, List.drop_zero]
      repeat (go_big_quiet_step ((go_at_call 13; exact Near.call (K13.out _))))
      refine wpQuiet_nil ?_
      rintro _ ⟨u, rfl⟩
      have HU2 := HU.out u
      clear HU K13 c0 d0 c1 d1 c2 d2 c3 d3 c4 d4 c5 d5 c6 d6 c7 d7 c8 d8 c9 d9 c10 d10
      generalize near wr u = W1 at *
      go_wp2_with fail
      go_roundw
      case rel => exact ⟨k + 1, by omega, by go_num, HU2⟩
      case measure => simp [intOf]; omega
    · have hki : ¬ (k : Int) < (n : Int) := by omega
      go_wp2_with fail
      go_ret
      exact ⟨rfl, hI⟩
end Go.Proofs.YtkbeiadbolihiaaDoor
namespace Go.Proofs.YtkbeiadbolihiaaDoor
open Go.RowKit Go.Shelf
attribute [local go_sem] Oper.semAt_some
set_option maxRecDepth 100000 in
set_option maxHeartbeats 2000000 in
theorem lex_short (ao : Option Addr) (n cap : Nat) (z : Nat → Nat) (w : World) (hr : Rd w ao n z) (hn : (n : Int) ≤ 1024) : Calls Tryd.prog 17 #[.slice ao n cap] w (RetLx w z n) := by
  have hgt : ¬ ((n : Int) > 1024) := by omega
  have hB0 : Below w.heap.size w (((((w.alloc (.cells #[.slice none 0 0] 32)).alloc (.cells #[.int .i64 0] 3)).alloc (.cells #[.int .i64 0] 28)).alloc (.cells #[.slice none 0 0] 32)).alloc (.cells #[.slice ao n cap] 34)) := (bel4 w _ _ _ _).alloc (by simp; omega) _
  have hI0 : LxI w [] (((((w.alloc (.cells #[.slice none 0 0] 32)).alloc (.cells #[.int .i64 0] 3)).alloc (.cells #[.int .i64 0] 28)).alloc (.cells #[.slice none 0 0] 32)).alloc (.cells #[.slice ao n cap] 34)) := by
    refine ⟨⟨.slice none 0 0, ?_, World.ownsRow_nil _ _ _ _⟩, ?_, ?_, ?_, hB0, fun s hs => by cases hs⟩
    · have := (Cl.new (((w.alloc (.cells #[.slice none 0 0] 32)).alloc (.cells #[.int .i64 0] 3)).alloc (.cells #[.int .i64 0] 28)) 32 [.slice none 0 0]).alloc (.cells #[.slice ao n cap] 34)
      simpa using this
    · exact ((((Cl.new w 32 [.slice none 0 0]).alloc _).alloc _).alloc _).alloc _
    · have := (((Cl.new (w.alloc (.cells #[.slice none 0 0] 32)) 3 [.int .i64 0]).alloc (.cells #[.int .i64 0] 28)).alloc (.cells #[.slice none 0 0] 32)).alloc (.cells #[.slice ao n cap] 34)
      simpa using this
    · have := ((Cl.new ((w.alloc (.cells #[.slice none 0 0] 32)).alloc (.cells #[.int .i64 0] 3)) 28 [.int .i64 0]).alloc (.cells #[.slice none 0 0] 32)).alloc (.cells #[.slice ao n cap] 34)
      simpa using this
  have hP0 : Cl (((((w.alloc (.cells #[.slice none 0 0] 32)).alloc (.cells #[.int .i64 0] 3)).alloc (.cells #[.int .i64 0] 28)).alloc (.cells #[.slice none 0 0] 32)).alloc (.cells #[.slice ao n cap] 34)) (w.heap.size + 1 + 1 + 1 + 1) 34 [.slice ao n cap] := by
    have := Cl.new ((((w.alloc (.cells #[.slice none 0 0] 32)).alloc (.cells #[.int .i64 0] 3)).alloc (.cells #[.int .i64 0] 28)).alloc (.cells #[.slice none 0 0] 32)) 34 [.slice ao n cap]
    simpa using this
  have hW := words_any ao n cap
  refine (callsIn_wide (n := 5)).1 ?_
  refine callsIn_of_wp_marks Tryd.func17 rfl trivial ?_ rfl
  simp only [Tryd.ntmps17, List.size_toArray, List.length_cons, List.length_nil, Nat.reduceAdd, Nat.reduceSub, Array.replicate_succ, Array.replicate_zero, List.push_toArray, List.append_toArray, List.nil_append, List.cons_append]
  gi_wp2_with (refine ⟨trivial, ?_⟩; gi_at_call 30; refine (callsIn_wide.2 (hW _)).mono ?_; rintro e w1 ⟨rfl, rfl⟩)
  generalize hw1 : ((((w.alloc (.cells #[.slice none 0 0] 32)).alloc (.cells #[.int .i64 0] 3)).alloc (.cells #[.int .i64 0] 28)).alloc (.cells #[.slice none 0 0] 32)).alloc (.cells #[.slice ao n cap] 34) = w1 at *
  have hs : w1.heap.size = w.heap.size + 5 := by rw [← hw1]; simp
  have hold : ∀ k, k < w.heap.size → w1.heap[k]? = w.heap[k]? := fun k hk => hB0.block k hk
  clear hw1 hW
  obtain ⟨i0, hi, hz0, hz1, hz2⟩ := info_parts b_tok
  refine wpIn_rangeFunc_turn (n := 5) rfl (by decide) (gf := 46) (lb := #[.pointer (some ⟨w.heap.size + 1 + 1 + 1 + 1, 0, none⟩)]) rfl trivial (enters_of Tryd.func46 (by kernel_rfl) rfl)
    (encs := fun s : TokS => #[tokOf s, markV s.en s.er]) (S := fun ys => ys = wl z n 1100 0) (Sp := fun pre => pre <+: wl z n 1100 0) (N := 1024) (LxOld w) (fun k hk => by unfold LxOld at hk; omega)
    (words_seq 4 (by decide) w w1 (w.heap.size + 1 + 1 + 1 + 1) (LxOld w) (fun _ h => h) ao n cap z hr hn hP0 hold (by omega)) (fun _ => rfl)
    (LxI w) (fun c pre W => c = .ret ∧ LxX w pre W) (fun s A B h ht => h.turn (hs ▸ ht)) (fun c s A B h ht => ⟨h.1, h.2.turn (hs ▸ ht)⟩) hI0
    (LxA w ao n cap) (fun x a' A B h ht => ?_) ?assign ?body ?done ?stop
  · obtain ⟨p, hp, e, h1, h2⟩ := h
    exact ⟨p, hp, e, h1.turn ht (by omega), h2.turn ht (by omega)⟩
  case assign =>
    intro pre x W K hI hsz hK
    rw [hs] at hsz
    have HX : Hid (LxA w ao n cap x ⟨#[.slice ao n cap, undef, .pointer (some ⟨w.heap.size, 0, none⟩), .pointer (some ⟨w.heap.size + 1, 0, none⟩), .pointer (some ⟨w.heap.size + 1 + 1, 0, none⟩), .pointer (some ⟨w.heap.size + 1 + 1 + 1, 0, none⟩), .pointer (some ⟨W.heap.size, 0, none⟩), .pointer (some ⟨W.heap.size + 1, 0, none⟩), .slice ao n cap, .int .i64 (n : Nat), .bool false, .slice ao n cap, .func (.func 46) #[] #[.pointer (some ⟨w.heap.size + 1 + 1 + 1 + 1, 0, none⟩)], tokOf x, markV x.en x.er, undef, undef, undef, undef, undef, undef, undef, undef, undef, undef, undef, undef, undef, undef], []⟩ ((W.alloc (.cells #[.int .i64 x.k, .int .u8 (x.b : Nat), .int .u64 (wds x.P 0 : Nat), .int .u64 (wds x.P 1 : Nat), .int .u64 (wds x.P 2 : Nat), .int .u64 (wds x.P 3 : Nat), .bool x.nt, .int .i64 x.l, .int .i64 x.m, .bool x.lz, .int .i64 (x.at_ : Nat)] 26)).alloc (.cells #[.int .i64 (x.en : Nat), .int .i64 x.er] 53))) := by
      refine ⟨W.heap.size, by omega, rfl, (Cl.new W 26 _).alloc _, ?_⟩
      have := Cl.new (W.alloc (.cells #[.int .i64 x.k, .int .u8 (x.b : Nat), .int .u64 (wds x.P 0 : Nat), .int .u64 (wds x.P 1 : Nat), .int .u64 (wds x.P 2 : Nat), .int .u64 (wds x.P 3 : Nat), .bool x.nt, .int .i64 x.l, .int .i64 x.m, .bool x.lz, .int .i64 (x.at_ : Nat)] 26)) 53 [.int .i64 (x.en : Nat), .int .i64 x.er]
      simpa using this
    have HI : Hid (LxI w pre ((W.alloc (.cells #[.int .i64 x.k, .int .u8 (x.b : Nat), .int .u64 (wds x.P 0 : Nat), .int .u64 (wds x.P 1 : Nat), .int .u64 (wds x.P 2 : Nat), .int .u64 (wds x.P 3 : Nat), .bool x.nt, .int .i64 x.l, .int .i64 x.m, .bool x.lz, .int .i64 (x.at_ : Nat)] 26)).alloc (.cells #[.int .i64 (x.en : Nat), .int .i64 x.er] 53))) := hI.turn (Turn.of_below (bel2 W _ _))
    have HT : Hid (KeepT w1.heap.size (LxOld w) W ((W.alloc (.cells #[.int .i64 x.k, .int .u8 (x.b : Nat), .int .u64 (wds x.P 0 : Nat), .int .u64 (wds x.P 1 : Nat), .int .u64 (wds x.P 2 : Nat), .int .u64 (wds x.P 3 : Nat), .bool x.nt, .int .i64 x.l, .int .i64 x.m, .bool x.lz, .int .i64 (x.at_ : Nat)] 26)).alloc (.cells #[.int .i64 (x.en : Nat), .int .i64 x.er] 53))) := by rw [hs]; exact KeepT.of_below (bel2 W _ _) (by omega)
    clear hI hold hP0 hI0 hB0 hr
    unfold tokOf markV tokV at *
    gi_wp2
    exact hK _ _ HT.out HI.out HX.out
  case body =>
    rintro pre x a' W hI ⟨p, hp, rfl, ht, hm⟩ hsz hlen
    rw [hs] at hsz
    obtain ⟨v, hv, hrow⟩ := hI.row
    obtain ⟨⟨m0, m1⟩, n0, n1⟩ := hm.two
    obtain ⟨v0, v1⟩ := hv.one
    by_cases he : x.er = 0
    · have h9 : (x.er != 0) = false := by simp [he]
      have HC : Hid (Cl W p 26 [.int .i64 x.k, .int .u8 (x.b : Nat), .int .u64 (wds x.P 0 : Nat), .int .u64 (wds x.P 1 : Nat), .int .u64 (wds x.P 2 : Nat), .int .u64 (wds x.P 3 : Nat), .bool x.nt, .int .i64 x.l, .int .i64 x.m, .bool x.lz, .int .i64 (x.at_ : Nat)]) := ht
      obtain ⟨c0, c1, c2, c3, c4, c5, c6, c7, c8, c9, c10⟩ := HC.out.eleven.1
      obtain ⟨ao', cap', rfl⟩ := ownsRow_slice hrow
      have HS : Hid (∀ v' w2, w2.ownsRow (w.heap.size + 9) 26 11 v' (pre.length + 1) (tokL pre ++ [.int .i64 x.k, .int .u8 (x.b : Nat), .int .u64 (wds x.P 0 : Nat), .int .u64 (wds x.P 1 : Nat), .int .u64 (wds x.P 2 : Nat), .int .u64 (wds x.P 3 : Nat), .bool x.nt, .int .i64 x.l, .int .i64 x.m, .bool x.lz, .int .i64 (x.at_ : Nat)]) → (W.alloc (.cells #[.int .i64 x.k, .int .u8 (x.b : Nat), .int .u64 (wds x.P 0 : Nat), .int .u64 (wds x.P 1 : Nat), .int .u64 (wds x.P 2 : Nat), .int .u64 (wds x.P 3 : Nat), .bool x.nt, .int .i64 x.l, .int .i64 x.m, .bool x.lz, .int .i64 (x.at_ : Nat)] 26)).grownBy w2 (Value.slice ao' pre.length cap').ownBlock → _) := fun v' w2 ho hg => lx_step (x := x) hI he hsz hv hrow ho hg
      have hb : (pre.length : Int) < 1024 := by omega
      clear ht hm hI hv hold hP0 hI0 hB0 hr he
      unfold tokOf markV tokV
      generalize wds x.P 0 = a0 at *
      generalize wds x.P 1 = a1 at *
      generalize wds x.P 2 = a2 at *
      generalize wds x.P 3 = a3 at *
      gi_wp2_with (gi_at_builtin; refine wpListIn_append_own _ rfl _ _ 32 rfl (w.heap.size + 9) 26 i0 (.agg #[.int .i64 0, .int .u8 0, .int .u64 0, .int .u64 0, .int .u64 0, .int .u64 0, .bool false, .int .i64 0, .int .i64 0, .bool false, .int .i64 0]) 11 88 Tryd.underlying32 hi hz0 hz1 hz2 rfl (by decide) _ _ _ rfl (hrow.alloc _) ⟨W.heap.size, 0, none⟩ 1 1 [.int .i64 x.k, .int .u8 (x.b : Nat), .int .u64 (a0 : Nat), .int .u64 (a1 : Nat), .int .u64 (a2 : Nat), .int .u64 (a3 : Nat), .bool x.nt, .int .i64 x.l, .int .i64 x.m, .bool x.lz, .int .i64 (x.at_ : Nat)] rfl rfl (eleven_new _ _ _ _ _ _ _ _ _ _ _ _ _) (by simp [Value.oneCell']) (by unfold maxLen; omega) (by omega) (by simp; omega) ?_; intro v' w2 hown' hgrow _; obtain ⟨hv2, hk2, hi2⟩ := HS.out v' w2 hown' hgrow; obtain ⟨ao2, cap2, rfl⟩ := ownsRow_slice hown'; obtain ⟨q0, q1⟩ := hv2.one; have HZ : Hid (_ ∧ _) := ⟨hk2, hi2⟩; clear hk2 hi2 hv2 hgrow)
      exact ⟨by rw [hs]; exact HZ.out.1, HZ.out.2⟩
    · have h9 : (x.er != 0) = true := by simp [he]
      obtain ⟨p0, p1, p2, p3, p4⟩ := put3 hI (.slice none 0 0) (.int .i64 (x.en : Nat)) (.int .i64 x.er)
      have HX : Hid (LxX w (pre ++ [x]) ((((W.setCell ⟨w.heap.size, 0, none⟩ (.slice none 0 0)).setCell ⟨w.heap.size + 1, 0, none⟩ (.int .i64 (x.en : Nat))).setCell ⟨w.heap.size + 1 + 1, 0, none⟩ (.int .i64 x.er)).drew)) := ⟨⟨x, by simp, he, p1.drew, p2.drew⟩, p0.drew, p3.drew⟩
      have HK : Hid (KeepT w1.heap.size (LxOld w) W ((((W.setCell ⟨w.heap.size, 0, none⟩ (.slice none 0 0)).setCell ⟨w.heap.size + 1, 0, none⟩ (.int .i64 (x.en : Nat))).setCell ⟨w.heap.size + 1 + 1, 0, none⟩ (.int .i64 x.er)).drew)) := ⟨by show W.heap.size ≤ (((W.setCell _ _).setCell _ _).setCell _ _).heap.size; simp, fun k hk => by rw [hs] at hk; unfold LxOld at hk; exact p4 k (by omega) (by omega) (by omega)⟩
      obtain ⟨r0, r1⟩ := hI.r0.one
      obtain ⟨s0, s1⟩ := hI.r1.one
      obtain ⟨t0, t1⟩ := hI.r2.one
      have hmo : Tryd.prog.follows .mixedOrders = true := by kernel_rfl
      have np : p ≠ w.heap.size ∧ p ≠ w.heap.size + 1 ∧ p ≠ w.heap.size + 1 + 1 ∧ p + 1 ≠ w.heap.size ∧ p + 1 ≠ w.heap.size + 1 ∧ p + 1 ≠ w.heap.size + 1 + 1 := by omega
      obtain ⟨np0, np1, np2, np3, np4, np5⟩ := np
      clear ht hm hI hv hold hP0 hI0 hB0 hr he hrow p0 p1 p2 p3 p4
      unfold tokOf markV tokV
      gi_wp2_with fail
      gi_region_with_o (fail)
      all_goals gi_wp2
      all_goals exact ⟨HK.out, rfl, HX.out⟩
  case done =>
    rintro xs W rfl hI hD
    obtain ⟨v, hv, hrow⟩ := hI.row
    obtain ⟨ao', cap', rfl⟩ := ownsRow_slice hrow
    obtain ⟨v0, v1⟩ := hv.one
    obtain ⟨r0, r1⟩ := hI.r0.one
    obtain ⟨s0, s1⟩ := hI.r1.one
    obtain ⟨t0, t1⟩ := hI.r2.one
    have hg := hI.good
    obtain ⟨p0, p1, p2, p3, p4⟩ := put3 hI (.slice ao' (wl z n 1100 0).length cap') (.int .i64 (n : Nat)) (.int .i64 0)
    have HR : Hid (RetLx w z n (.returned (.tuple #[.slice ao' (wl z n 1100 0).length cap', .int .i64 (n : Nat), .int .i64 0])) (((((W.setCell ⟨w.heap.size, 0, none⟩ (.slice ao' (wl z n 1100 0).length cap')).setCell ⟨w.heap.size + 1, 0, none⟩ (.int .i64 (n : Nat))).setCell ⟨w.heap.size + 1 + 1, 0, none⟩ (.int .i64 0)).putObj w1.heap.size (.deferred none)))) := by
      refine .inl ⟨ao', cap', hg, rfl, ownsRow_base (ownsRow_at (ownsRow_at hrow fun g hg _ => p4 g (by omega) (by omega) (by omega)) fun g hg _ => World.putObj_heap_other (by omega)) (by omega), ?_⟩
      exact (Turn.put (b := w1.heap.size) (w1.heap.size) _ ⟨Nat.le_refl _, by omega⟩).below p3 (by omega) (Nat.le_trans (Nat.le_of_lt p0.lt) (Nat.le_refl _))
    have q0 := (p0.same (World.putObj_heap_other (r := w1.heap.size) (o := .deferred none) (by omega))).one.1
    have q1 := (p1.same (World.putObj_heap_other (r := w1.heap.size) (o := .deferred none) (by omega))).one.1
    have q2 := (p2.same (World.putObj_heap_other (r := w1.heap.size) (o := .deferred none) (by omega))).one.1
    have hD2 := (p4 w1.heap.size (by omega) (by omega) (by omega)).trans hD
    clear p0 p1 p2 p3 p4 hI hrow hg hv hold hP0 hI0 hB0 hr
    generalize (wl z n 1100 0).length = len at *
    gi_wp2
    refine ⟨by simp, .inl ⟨_, _, rfl, run_takeDeferred hD2, ?_⟩⟩
    exact ⟨.tuple #[.slice ao' len cap', .int .i64 (n : Nat), .int .i64 0], by simp [results, Tryd.results17, go_sem, q0, q1, q2], HR.out⟩
  case stop =>
    rintro pre W hSp ⟨-, ⟨s, hs1, he, h1, h2⟩, h0, hb⟩ hD
    have HR : Hid (RetLx w z n (.returned (.tuple #[.slice none 0 0, .int .i64 (s.en : Nat), .int .i64 s.er])) (W.putObj w1.heap.size (.deferred none))) :=
      .inr ⟨s, hSp.subset hs1, he, rfl, (Turn.put (b := w1.heap.size) (w1.heap.size) _ ⟨Nat.le_refl _, by omega⟩).below hb (by omega) (Nat.le_of_lt h0.lt)⟩
    have q0 := (h0.same (World.putObj_heap_other (r := w1.heap.size) (o := .deferred none) (by omega))).one.1
    have q1 := (h1.same (World.putObj_heap_other (r := w1.heap.size) (o := .deferred none) (by omega))).one.1
    have q2 := (h2.same (World.putObj_heap_other (r := w1.heap.size) (o := .deferred none) (by omega))).one.1
    clear h0 h1 h2 hb hSp hs1 he hold hP0 hI0 hB0 hr
    gi_wp2
    refine ⟨by simp, .inl ⟨_, _, rfl, run_takeDeferred hD, ?_⟩⟩
    exact ⟨.tuple #[.slice none 0 0, .int .i64 (s.en : Nat), .int .i64 s.er], by simp [results, Tryd.results17, go_sem, q0, q1, q2], HR.out⟩
set_option maxRecDepth 10000 in
set_option maxHeartbeats 400000 in
theorem lex_long (ao : Option Addr) (n cap : Nat) (w : World) (hn : (n : Int) > 1024) : Calls Tryd.prog 17 #[.slice ao n cap] w fun e w' => e = .returned (.tuple #[.slice none 0 0, .int .i64 0, .int .i64 3]) ∧ Below w.heap.size w w' := by
  go_enter Tryd.func17, Tryd.ntmps17
  go_wp2
  exact bodyPost_ret (v := .tuple #[.slice none 0 0, .int .i64 0, .int .i64 3]) (by simp [results, Tryd.results17, go_sem]) rfl ⟨rfl, bel3 _ _ _ _⟩
end Go.Proofs.YtkbeiadbolihiaaDoor
namespace Go.Proofs.YtkbeiadbolihiaaDoor
open Go.RowKit
theorem eql4_same (a b c d : Int) (m : Nat) (w : World) : (Op.equalIn (9998 + 1) 24 (.agg #[.int .u64 a, .int .u64 b, .int .u64 c, .int .u64 d]) (.agg #[.int .u64 a, .int .u64 b, .int .u64 c, .int .u64 d])).run Tryd.prog w = .ok true w ∧ m = m := by
  obtain ⟨j, hj, _⟩ := Option.map_eq_some_iff.1 (show (Tryd.prog.info? 22).map (·.size) = some 1 by kernel_rfl)
  refine ⟨?_, rfl⟩
  rw [run_equalIn_array w 9998 _ _ Tryd.underlying24 hj, show List.range 4 = [0, 1, 2, 3] from rfl]
  simp only [Op.eqItems, Sem.run_bind, part0, part1, part2, part3, Result.andThen_ok, eq24 9997, beq_self_eq_true, Bool.not_true, Bool.false_eq_true, if_false, Sem.run_pure]
/-- A token is the same as itself. -/
theorem eql32_same (k : Int) (b a0 a1 a2 a3 : Nat) (nt : Bool) (l m : Int) (lz : Bool) (at_ : Nat) (w : World) :
    (Go.binOp BinOp.eql 26 (tokV k b a0 a1 a2 a3 nt l m lz at_) (tokV k b a0 a1 a2 a3 nt l m lz at_)).run Tryd.prog w = Result.ok (.bool true) w := by
  have f32 : Tryd.prog.fieldsOf 26 = #[{ name := "Kind", type := 3, offset := 0, embedded := false, tag := "", pkgPath := "", byteOffset := 0 }, { name := "Byte", type := 5, offset := 1, embedded := false, tag := "", pkgPath := "", byteOffset := 8 }, { name := "Class", type := 24, offset := 2, embedded := false, tag := "", pkgPath := "", byteOffset := 16 }, { name := "Not", type := 4, offset := 6, embedded := false, tag := "", pkgPath := "", byteOffset := 48 }, { name := "Least", type := 3, offset := 7, embedded := false, tag := "", pkgPath := "", byteOffset := 56 }, { name := "Most", type := 3, offset := 8, embedded := false, tag := "", pkgPath := "", byteOffset := 64 }, { name := "Lazy", type := 4, offset := 9, embedded := false, tag := "", pkgPath := "", byteOffset := 72 }, { name := "At", type := 3, offset := 10, embedded := false, tag := "", pkgPath := "", byteOffset := 80 }] := by kernel_rfl
  unfold tokV
  have h : (Op.equalIn (9999 + 1) 26 (.agg #[.int .i64 k, .int .u8 (b : Nat), .int .u64 (a0 : Nat), .int .u64 (a1 : Nat), .int .u64 (a2 : Nat), .int .u64 (a3 : Nat), .bool nt, .int .i64 l, .int .i64 m, .bool lz, .int .i64 (at_ : Nat)]) (.agg #[.int .i64 k, .int .u8 (b : Nat), .int .u64 (a0 : Nat), .int .u64 (a1 : Nat), .int .u64 (a2 : Nat), .int .u64 (a3 : Nat), .bool nt, .int .i64 l, .int .i64 m, .bool lz, .int .i64 (at_ : Nat)])).run Tryd.prog w = .ok true w := by
    rw [run_equalIn_struct w 9999 26 _ _ (by kernel_rfl) (by kernel_rfl), f32]
    have q0 : ∀ (x0 x1 x2 x3 x4 x5 x6 x7 x8 x9 x10 : Value) w, (part 3 #[x0, x1, x2, x3, x4, x5, x6, x7, x8, x9, x10] 0).run Tryd.prog w = .ok x0 w := fun _ _ _ _ _ _ _ _ _ _ _ w => by kernel_rfl
    have q1 : ∀ (x0 x1 x2 x3 x4 x5 x6 x7 x8 x9 x10 : Value) w, (part 5 #[x0, x1, x2, x3, x4, x5, x6, x7, x8, x9, x10] 1).run Tryd.prog w = .ok x1 w := fun _ _ _ _ _ _ _ _ _ _ _ w => by kernel_rfl
    have q2 : ∀ (x0 x1 x2 x3 x4 x5 x6 x7 x8 x9 x10 : Value) w, (part 24 #[x0, x1, x2, x3, x4, x5, x6, x7, x8, x9, x10] 2).run Tryd.prog w = .ok (.agg #[x2, x3, x4, x5]) w := fun _ _ _ _ _ _ _ _ _ _ _ w => by kernel_rfl
    have q3 : ∀ (x0 x1 x2 x3 x4 x5 x6 x7 x8 x9 x10 : Value) w, (part 4 #[x0, x1, x2, x3, x4, x5, x6, x7, x8, x9, x10] 6).run Tryd.prog w = .ok x6 w := fun _ _ _ _ _ _ _ _ _ _ _ w => by kernel_rfl
    have q4 : ∀ (x0 x1 x2 x3 x4 x5 x6 x7 x8 x9 x10 : Value) w, (part 3 #[x0, x1, x2, x3, x4, x5, x6, x7, x8, x9, x10] 7).run Tryd.prog w = .ok x7 w := fun _ _ _ _ _ _ _ _ _ _ _ w => by kernel_rfl
    have q5 : ∀ (x0 x1 x2 x3 x4 x5 x6 x7 x8 x9 x10 : Value) w, (part 3 #[x0, x1, x2, x3, x4, x5, x6, x7, x8, x9, x10] 8).run Tryd.prog w = .ok x8 w := fun _ _ _ _ _ _ _ _ _ _ _ w => by kernel_rfl
    have q6 : ∀ (x0 x1 x2 x3 x4 x5 x6 x7 x8 x9 x10 : Value) w, (part 4 #[x0, x1, x2, x3, x4, x5, x6, x7, x8, x9, x10] 9).run Tryd.prog w = .ok x9 w := fun _ _ _ _ _ _ _ _ _ _ _ w => by kernel_rfl
    have q7 : ∀ (x0 x1 x2 x3 x4 x5 x6 x7 x8 x9 x10 : Value) w, (part 3 #[x0, x1, x2, x3, x4, x5, x6, x7, x8, x9, x10] 10).run Tryd.prog w = .ok x10 w := fun _ _ _ _ _ _ _ _ _ _ _ w => by kernel_rfl
    have e3 : ∀ (z : Int) w, (Op.equalIn 9999 3 (.int .i64 z) (.int .i64 z)).run Tryd.prog w = .ok true w := fun z w => by
      rw [run_equalIn_int w 9998 3 _ _ _ _ Tryd.underlying3]; simp
    have e5 : ∀ (z : Int) w, (Op.equalIn 9999 5 (.int .u8 z) (.int .u8 z)).run Tryd.prog w = .ok true w := fun z w => by
      rw [run_equalIn_int w 9998 5 _ _ _ _ Tryd.underlying5]; simp
    have e4 : ∀ (z : Bool) w, (Op.equalIn 9999 4 (.bool z) (.bool z)).run Tryd.prog w = .ok true w := fun z w => by
      rw [run_equalIn_bool' w 9998 4 _ _ Tryd.underlying4]; simp
    have e30 : ∀ (a b c d : Int) w, (Op.equalIn 9999 24 (.agg #[.int .u64 a, .int .u64 b, .int .u64 c, .int .u64 d]) (.agg #[.int .u64 a, .int .u64 b, .int .u64 c, .int .u64 d])).run Tryd.prog w = .ok true w := fun a b c d w => (eql4_same a b c d 0 w).1
    simp [Op.eqFields, q0, q1, q2, q3, q4, q5, q6, q7, e3, e4, e5, e30]
  simp only [binOp]
  simp only [Op.equal, Op.maxDepth, Sem.run_bind, h, Result.andThen_ok]
  simp
/-- The cells of a row that is read. -/
theorem row_cell {W : World} {base e size n cap : Nat} {ao : Option Addr} {xs : List Value} (h : W.ownsRow base e size (.slice ao n cap) n xs) (hn : 0 < n) :
    ∃ g, ao = some ⟨g, 0, none⟩ ∧ g < W.heap.size ∧ base ≤ g ∧ ∀ j u, xs[j]? = some u → W.cell? ⟨g, j, none⟩ = some u := by
  rcases h.2 with ⟨_, h0⟩ | ⟨g, cap', cur, hv, hg, hc, _, _, _, hx⟩
  · omega
  · cases hv
    refine ⟨g, rfl, (Array.getElem?_eq_some_iff.1 hc).1, hg, fun j u hj => ?_⟩
    rw [← hx, List.getElem?_take] at hj
    split at hj
    · rw [cell_of_row W g j _ e (0, 0) hc]
      simpa using hj
    · cases hj
theorem tokL_get (l : List TokS) (k j : Nat) (hk : k < l.length) (hj : j < 11) : (tokL l)[k * 11 + j]? = (tokC l[k])[j]? := by
  induction l generalizing k with
  | nil => simp at hk
  | cons s l ih =>
    have e : tokL (s :: l) = tokC s ++ tokL l := by simp [tokL]
    have hl : (tokC s).length = 11 := rfl
    rw [e]
    cases k with
    | zero => rw [List.getElem?_append_left (by omega)]; simp
    | succ k =>
      rw [List.getElem?_append_right (by omega), hl, show (k + 1) * 11 + j - 11 = k * 11 + j by omega]
      exact ih k (by simpa using hk)
/-- The words follow each other. -/
theorem wl_chain {z : Nat → Nat} {n : Nat} : ∀ f i, i ≤ n → n - i < f → (∀ s, s ∈ wl z n f i → s.er = 0) →
    ((wl z n f i).length = 0 ↔ n ≤ i) ∧ ∀ k (hk : k < (wl z n f i).length), (wl z n f i)[k] = wrd z n (wl z n f i)[k].at_ ∧ (wl z n f i)[k].at_ < n ∧ (k = 0 → (wl z n f i)[k].at_ = i) ∧ ((hk' : k + 1 < (wl z n f i).length) → (wl z n f i)[k].en = (wl z n f i)[k + 1].at_) ∧ (k + 1 = (wl z n f i).length → (wl z n f i)[k].en = n) := by
  intro f
  induction f with
  | zero => intro i _ h; omega
  | succ f ih =>
    intro i hi hf hg
    by_cases hin : n ≤ i
    · rw [wl_end hin] at *
      exact ⟨by simp [hin], fun k hk => by simp at hk⟩
    have hin' : i < n := by omega
    by_cases he : (wrd z n i).er = 0
    · have hw := wrd_lt hin' he
      have hx : ∀ s, s ∈ wl z n f (wrd z n i).en → s.er = 0 := fun s hs => hg s (by rw [wl_go hin' he]; exact List.mem_cons_of_mem _ hs)
      have h := ih (wrd z n i).en hw.2.1 (by omega) hx
      have e := wl_go (f := f) hin' he
      generalize wl z n f (wrd z n i).en = l at *
      rw [e]
      refine ⟨by simp; omega, fun k hk => ?_⟩
      cases k with
      | zero =>
        refine ⟨by simp [hw.2.2], by simp [hw.2.2, hin'], fun _ => by simp [hw.2.2], fun hk' => ?_, fun hk' => ?_⟩
        · simp only [List.getElem_cons_zero, List.getElem_cons_succ]
          exact ((h.2 0 (by simpa using hk')).2.2.1 rfl).symm
        · simp only [List.getElem_cons_zero]
          have h0 : l.length = 0 := by simpa using hk'
          have := h.1.1 h0
          omega
      | succ k =>
        have hk2 : k < l.length := by simpa using hk
        have hh := h.2 k hk2
        simp only [List.getElem_cons_succ]
        refine ⟨hh.1, hh.2.1, fun h => by omega, fun hk' => hh.2.2.2.1 (by simpa using hk'), fun hk' => hh.2.2.2.2 (by simpa using hk')⟩
    · exfalso
      exact he (hg _ (by rw [wl_bad hin' he]; simp))
/-- What lies from a word to the next is lexed to that word alone. -/
theorem wl_self {z : Nat → Nat} {n k : Nat} (hk : k < n) (e : (wrd z n k).er = 0) : wl (fun i => z (k + i)) ((wrd z n k).en - k) 1100 0 = [{ wrd z n k with at_ := 0, en := (wrd z n k).en - k }] := by
  have hlt := wrd_lt hk e
  have hs := wrd_self hk e
  rw [show (1100 : Nat) = 1099 + 1 from rfl, wl_go (by omega) (by rw [hs]; exact e), hs]
  simp only []
  rw [wl_end (Nat.le_refl _)]
end Go.Proofs.YtkbeiadbolihiaaDoor
