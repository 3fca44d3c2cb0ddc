/- token: the iterator of Tokens, which ranges over words. slices.Clone of bytes, and Tokens: the walks. -/
import Derived.Test.YtkbeiadbolihiaaM32To
import Derived.Laws.AppendOwn
import Derived.Lib.SliceRun
namespace Go.Proofs.Ytkbeiadbolihiaa
open Go.RowKit Go.Shelf
attribute [local go_sem] Oper.semAt_some
/-- The tokens ahead of the first that is bad. -/
def good (l : List TokS) : List TokS := l.takeWhile fun s => s.er == 0
theorem good_all : ∀ {l : List TokS}, (∀ s, s ∈ l → s.er = 0) → good l = l
  | [], _ => rfl
  | a :: l, h => by
    have ha := h a (by simp)
    have hl := good_all (l := l) fun s hs => h s (by simp [hs])
    unfold good at *
    rw [List.takeWhile_cons_of_pos (by simp [ha]), hl]
theorem good_cut : ∀ {l p : List TokS} {x : TokS}, p ++ [x] <+: l → (∀ s, s ∈ p → s.er = 0) → x.er ≠ 0 → good l = p
  | l, [], x, ⟨t, ht⟩, _, hx => by
    subst ht
    unfold good
    exact List.takeWhile_cons_of_neg (by simp [hx])
  | l, a :: p, x, ⟨t, ht⟩, h, hx => by
    subst ht
    have ha := h a (by simp)
    have hl := good_cut (l := (p ++ [x]) ++ t) (p := p) (x := x) ⟨t, rfl⟩ (fun s hs => h s (by simp [hs])) hx
    unfold good at *
    rw [List.cons_append, List.cons_append, List.takeWhile_cons_of_pos (by simp [ha]), hl]
theorem good_head : ∀ {l p : List TokS}, p <+: l → (∀ s, s ∈ p → s.er = 0) → p <+: good l
  | _, [], _, _ => List.nil_prefix
  | l, a :: p, ⟨t, ht⟩, h => by
    subst ht
    have ha := h a (by simp)
    have hl := good_head (l := p ++ t) (p := p) ⟨t, rfl⟩ (fun s hs => h s (by simp [hs]))
    unfold good at *
    rw [List.cons_append, List.takeWhile_cons_of_pos (by simp [ha])]
    obtain ⟨u, hu⟩ := hl
    exact ⟨u, by rw [List.cons_append, hu]⟩
/-- What holds between rounds, beside what the caller holds. -/
structure TiI (b : Nat) (J : List TokS → World → Prop) (pre : List TokS) (W : World) : Prop where
  inv : J pre W
  good : ∀ s, s ∈ pre → s.er = 0
  box : Cl W (b + 2) 47 [.func (.yield (b + 1)) #[] #[]]
def TiX (J Jx : List TokS → World → Prop) (c : Code) (pre : List TokS) (W : World) : Prop :=
  c = .ret ∧ ((∃ p x, pre = p ++ [x] ∧ x.er ≠ 0 ∧ (∀ s, s ∈ p → s.er = 0) ∧ J p W) ∨ ((∀ s, s ∈ pre → s.er = 0) ∧ Jx pre W))
def TiA (b bp : Nat) (ao : Option Addr) (n cap : Nat) (x : TokS) (a' : Act) (W : World) : Prop :=
  ∃ p, b + 8 ≤ p ∧ a' = ⟨#[.func (.yield (b + 1)) #[] #[], .pointer (some ⟨bp, 0, none⟩), .pointer (some ⟨b + 2, 0, none⟩), .pointer (some ⟨p, 0, none⟩), .pointer (some ⟨p + 1, 0, none⟩), .slice ao n cap, .func (.func 16) #[] #[.pointer (some ⟨b + 2 + 1, 0, none⟩)], tokOf x, markV x.en x.er, undef, undef, undef, undef, undef, undef, undef, undef, undef], []⟩ ∧ Cl W p 33 [.int .i64 x.k, .int .u8 (x.b : Nat), .int .u64 (wds x.P 0 : Nat), .int .u64 (wds x.P 1 : Nat), .int .u64 (wds x.P 2 : Nat), .int .u64 (wds x.P 3 : Nat), .bool x.nt, .int .i64 x.l, .int .i64 x.m, .bool x.lz, .int .i64 (x.at_ : Nat)] ∧ Cl W (p + 1) 45 [.int .i64 (x.en : Nat), .int .i64 x.er]
theorem Turn.toR {b lo hi : Nat} {A B : World} (h : Turn b A B) (h1 : lo ≤ b) (h2 : b + 4 ≤ hi) : TurnR lo hi A B := ⟨h.os, h.tape, h.output, h.size, fun k hk hb => h.block k hk (by omega)⟩
theorem yield_any {m : Nat} (m' : Nat) {P : Program} {l : Nat} {args : Array Value} {W : World} {R : Ending → World → Prop} (h : YieldAt Fence.wide m P l args W R) : YieldAt Fence.wide m' P l args W R := by
  obtain ⟨fn, tmps, assign, body, hy, hR⟩ := h
  exact ⟨fn, tmps, assign, body, hy, hR.1, fun c cs _ => hR.2 c cs (fun d h => by cases h)⟩
def TiOld (w : World) (b : Nat) (k : Nat) : Prop := k < w.heap.size ∨ k = b + 2 + 1
set_option maxRecDepth 100000 in
set_option maxHeartbeats 2000000 in
theorem tokens_seq (b bp : Nat) (ao : Option Addr) (n cap : Nat) (z : Nat → Nat) (w w1 : World) (hp : Cl w bp 22 [.slice ao n cap]) (hr : Rd w ao n z) (hn : (n : Int) ≤ 1024) (hwb : w.heap.size ≤ b) (hold : ∀ k, k < w.heap.size → w1.heap[k]? = w.heap[k]?) :
    SeqR Fence.wide 4 Try.prog b (b + 8) (fun k => k < w.heap.size) 15 #[.pointer (some ⟨bp, 0, none⟩)] (fun s : TokS => #[tokOf s]) (fun ys => ys = good (wl z n 1100 0)) (fun pre => pre <+: good (wl z n 1100 0)) 1024 w1 := by
  intro J Jx W hb hsW hJ hJx hY h0
  have hlt := hp.lt
  have hold2 : ∀ k, k < w.heap.size → W.heap[k]? = w.heap[k]? := fun k hk => (hb.block k (by omega)).trans (hold k hk)
  have hpW : Cl W bp 22 [.slice ao n cap] := hp.same (hold2 _ hlt)
  have c0 := ((hpW.alloc (.cells #[.func (.yield (b + 1)) #[] #[]] 47)).one).1
  have hW := words_any ao n cap
  have hB2 : Below W.heap.size W ((W.alloc (.cells #[.func (.yield (b + 1)) #[] #[]] 47)).alloc (.cells #[.slice ao n cap] 22)) := bel2 _ _ _
  have hbx : Cl ((W.alloc (.cells #[.func (.yield (b + 1)) #[] #[]] 47)).alloc (.cells #[.slice ao n cap] 22)) (b + 2) 47 [.func (.yield (b + 1)) #[] #[]] := by rw [← hsW]; exact (Cl.new W 47 [_]).alloc _
  have hpx : Cl ((W.alloc (.cells #[.func (.yield (b + 1)) #[] #[]] 47)).alloc (.cells #[.slice ao n cap] 22)) (b + 2 + 1) 22 [.slice ao n cap] := by
    have := Cl.new (W.alloc (.cells #[.func (.yield (b + 1)) #[] #[]] 47)) 22 [.slice ao n cap]
    simpa [hsW] using this
  have hJ0 : J [] ((W.alloc (.cells #[.func (.yield (b + 1)) #[] #[]] 47)).alloc (.cells #[.slice ao n cap] 22)) := hJ _ _ _ h0 (TurnR.of_below hB2)
  have HJ : Hid (∀ s A B, J s A → TurnR (b + 2) (b + 8) A B → J s B) := hJ
  have HJx : Hid (∀ s A B, Jx s A → TurnR (b + 2) (b + 8) A B → Jx s B) := hJx
  have HY : Hid (∀ pre x W1, J pre W1 → b + 8 ≤ W1.heap.size → pre.length < 1024 → YieldAt Fence.wide (4 - 1) Try.prog (b + 1) #[tokOf x] W1 fun e W' =>
      ((e = .returned (.bool true) ∧ J (pre ++ [x]) W') ∨ (e = .returned (.bool false) ∧ Jx (pre ++ [x]) W')) ∧ KeepR (b + 2) (b + 8) (fun k => k < w.heap.size) W1 W') := hY
  have HR : Hid (Rd w ao n z) := hr
  clear hJ hJx hY h0 hr hp hpW hb hold
  show CallsIn Fence.wide 4 Try.prog 15 #[.func (.yield (b + 1)) #[] #[], .pointer (some ⟨bp, 0, none⟩)] W _
  refine callsIn_of_wp_marks Try.func15 rfl trivial ?_ rfl
  simp only [Try.ntmps15, List.size_toArray, List.length_cons, List.length_nil, Nat.reduceAdd, Nat.reduceSub, Array.replicate_succ, Array.replicate_zero, List.push_toArray, List.append_toArray, List.nil_append, List.cons_append]
  gi_wp2_with (refine ⟨trivial, ?_⟩; gi_at_call 12; refine (callsIn_wide.2 (hW _)).mono ?_; rintro e w1 ⟨rfl, rfl⟩)
  generalize hw2 : (W.alloc (.cells #[.func (.yield (b + 1)) #[] #[]] 47)).alloc (.cells #[.slice ao n cap] 22) = w2 at *
  have hs2 : w2.heap.size = b + 4 := by rw [← hw2]; simp [hsW]
  have hold3 : ∀ k, k < w.heap.size → w2.heap[k]? = w.heap[k]? := fun k hk => (hB2.block k (by omega)).trans (hold2 k hk)
  clear hw2 hW c0 hB2 hold2
  refine wpIn_rangeFunc_turn (n := 4) rfl (by decide) (gf := 16) (lb := #[.pointer (some ⟨b + 2 + 1, 0, none⟩)]) rfl trivial (enters_of Try.func16 (by kernel_rfl) rfl)
    (encs := fun s : TokS => #[tokOf s, markV s.en s.er]) (S := fun ys => ys = wl z n 1100 0) (Sp := fun pre => pre <+: wl z n 1100 0) (N := 1024) (TiOld w b) (fun k hk => by unfold TiOld at hk; omega)
    (words_seq 3 (by decide) w w2 (b + 2 + 1) (TiOld w b) (fun _ h => h) ao n cap z HR.out hn hpx hold3 (by omega)) (fun _ => rfl)
    (TiI b J) (TiX J Jx) (fun s A B h ht => ?_) (fun c s A B h ht => ?_) ⟨hJ0, fun s hs => (by cases hs), hbx⟩
    (TiA b bp ao n cap) (fun x a' A B h ht => ?_) ?assign ?body ?done ?stop
  · exact ⟨HJ.out _ _ _ h.inv (ht.toR (by omega) (by omega)), h.good, h.box.turn ht (by omega)⟩
  · obtain ⟨hc, h⟩ := h
    refine ⟨hc, ?_⟩
    rcases h with ⟨p, x, e, hx, hg, hj⟩ | ⟨hg, hj⟩
    · exact .inl ⟨p, x, e, hx, hg, HJ.out _ _ _ hj (ht.toR (by omega) (by omega))⟩
    · exact .inr ⟨hg, HJx.out _ _ _ hj (ht.toR (by omega) (by omega))⟩
  · obtain ⟨p, hp, e, h1, h2⟩ := h
    exact ⟨p, hp, e, h1.turn ht (by omega), h2.turn ht (by omega)⟩
  case assign =>
    intro pre x W K hI hsz hK
    rw [hs2] at hsz
    have HX : Hid (TiA b bp ao n cap x ⟨#[.func (.yield (b + 1)) #[] #[], .pointer (some ⟨bp, 0, none⟩), .pointer (some ⟨b + 2, 0, none⟩), .pointer (some ⟨W.heap.size, 0, none⟩), .pointer (some ⟨W.heap.size + 1, 0, none⟩), .slice ao n cap, .func (.func 16) #[] #[.pointer (some ⟨b + 2 + 1, 0, none⟩)], tokOf x, markV x.en x.er, undef, undef, undef, undef, undef, undef, undef, undef, undef], []⟩ ((W.alloc (.cells #[.int .i64 x.k, .int .u8 (x.b : Nat), .int .u64 (wds x.P 0 : Nat), .int .u64 (wds x.P 1 : Nat), .int .u64 (wds x.P 2 : Nat), .int .u64 (wds x.P 3 : Nat), .bool x.nt, .int .i64 x.l, .int .i64 x.m, .bool x.lz, .int .i64 (x.at_ : Nat)] 33)).alloc (.cells #[.int .i64 (x.en : Nat), .int .i64 x.er] 45))) := by
      refine ⟨W.heap.size, by omega, rfl, (Cl.new W 33 _).alloc _, ?_⟩
      have := Cl.new (W.alloc (.cells #[.int .i64 x.k, .int .u8 (x.b : Nat), .int .u64 (wds x.P 0 : Nat), .int .u64 (wds x.P 1 : Nat), .int .u64 (wds x.P 2 : Nat), .int .u64 (wds x.P 3 : Nat), .bool x.nt, .int .i64 x.l, .int .i64 x.m, .bool x.lz, .int .i64 (x.at_ : Nat)] 33)) 45 [.int .i64 (x.en : Nat), .int .i64 x.er]
      simpa using this
    have HI : Hid (TiI b J pre ((W.alloc (.cells #[.int .i64 x.k, .int .u8 (x.b : Nat), .int .u64 (wds x.P 0 : Nat), .int .u64 (wds x.P 1 : Nat), .int .u64 (wds x.P 2 : Nat), .int .u64 (wds x.P 3 : Nat), .bool x.nt, .int .i64 x.l, .int .i64 x.m, .bool x.lz, .int .i64 (x.at_ : Nat)] 33)).alloc (.cells #[.int .i64 (x.en : Nat), .int .i64 x.er] 45))) := ⟨HJ.out _ _ _ hI.inv (TurnR.of_below (bel2 W _ _)), hI.good, (hI.box.alloc _).alloc _⟩
    have HT : Hid (KeepT w2.heap.size (TiOld w b) W ((W.alloc (.cells #[.int .i64 x.k, .int .u8 (x.b : Nat), .int .u64 (wds x.P 0 : Nat), .int .u64 (wds x.P 1 : Nat), .int .u64 (wds x.P 2 : Nat), .int .u64 (wds x.P 3 : Nat), .bool x.nt, .int .i64 x.l, .int .i64 x.m, .bool x.lz, .int .i64 (x.at_ : Nat)] 33)).alloc (.cells #[.int .i64 (x.en : Nat), .int .i64 x.er] 45))) := ⟨(bel2 W _ _).size, fun k hk => (bel2 W _ _).block k (by unfold TiOld at hk; omega)⟩
    clear hI hold3 hpx hbx hJ0 HY
    unfold tokOf markV tokV at *
    gi_wp2
    exact hK _ _ HT.out HI.out HX.out
  case body =>
    rintro pre x a' W hI ⟨p, hp, rfl, ht, hm⟩ hsz hlen
    rw [hs2] at hsz
    obtain ⟨⟨m0, m1⟩, n0, n1⟩ := hm.two
    obtain ⟨y0, y1⟩ := hI.box.one
    by_cases he : x.er = 0
    · have h9 : (x.er != 0) = false := by simp [he]
      obtain ⟨c0, c1, c2, c3, c4, c5, c6, c7, c8, c9, c10⟩ := ht.eleven.1
      obtain ⟨fn, tmps, assign, body, hy, hR⟩ := yield_any 1 (HY.out pre x W hI.inv (by omega) hlen)
      have HR2 : Hid (∀ R', (∀ e w', _ → R' e w') → RoundIn Fence.wide 1 Try.prog (b + 1) fn tmps assign body W R') := fun R' h => hR.mono h
      have HI : Hid (TiI b J pre W) := hI
      have HE : Hid (x.er = 0) := he
      simp only [tokOf, tokV] at hy
      clear hR hI ht hm hold3 hpx hbx hJ0 HY he
      unfold tokOf markV tokV
      gi_wp2_with fail
      clear c0 c1 c2 c3 c4 c5 c6 c7 c8 c9 c10 hy m0 m1 n0 n1 y0 y1
      refine HR2.out _ ?_
      rintro e W3 ⟨(⟨rfl, hX⟩ | ⟨rfl, hX⟩), hk⟩
      · have HG : Hid (KeepT w2.heap.size (TiOld w b) W W3 ∧ TiI b J (pre ++ [x]) W3) := by
          refine ⟨⟨hk.size, fun k hkk => hk.same k (by unfold TiOld at hkk; omega)⟩, hX, fun s hs => ?_, HI.out.box.same (hk.same _ (.inr ⟨by omega, by omega⟩))⟩
          rcases List.mem_append.1 hs with hs | hs
          · exact HI.out.good s hs
          · rw [List.mem_singleton.1 hs]; exact HE.out
        clear hX hk HI HE HR2
        gi_wp2
        exact HG.out
      · have HG : Hid (KeepT w2.heap.size (TiOld w b) W W3 ∧ TiX J Jx .ret (pre ++ [x]) W3) := by
          refine ⟨⟨hk.size, fun k hkk => hk.same k (by unfold TiOld at hkk; omega)⟩, rfl, .inr ⟨fun s hs => ?_, hX⟩⟩
          rcases List.mem_append.1 hs with hs | hs
          · exact HI.out.good s hs
          · rw [List.mem_singleton.1 hs]; exact HE.out
        clear hX hk HI HE HR2
        gi_wp2
        exact HG.out
    · have h9 : (x.er != 0) = true := by simp [he]
      have HG : Hid (KeepT w2.heap.size (TiOld w b) W W ∧ TiX J Jx .ret (pre ++ [x]) W) := ⟨KeepT.refl _ _ _, rfl, .inl ⟨pre, x, rfl, he, hI.good, hI.inv⟩⟩
      clear hI ht hm hold3 hpx hbx hJ0 HY he
      unfold tokOf markV tokV
      gi_wp2
      refine ⟨fun _ h => (by cases h), ?_⟩
      gi_wp2
      exact HG.out
  case done =>
    rintro xs W rfl hI hD
    have HG : Hid (∃ ys, ys = good (wl z n 1100 0) ∧ J ys (W.putObj w2.heap.size (.deferred none))) := ⟨_, rfl, by rw [good_all hI.good]; exact HJ.out _ _ _ hI.inv (TurnR.put _ _ ⟨by omega, by omega⟩)⟩
    clear hI hold3 hpx hbx hJ0 HY
    gi_wp2
    refine ⟨by simp, .inl ⟨_, _, rfl, run_takeDeferred hD, ?_⟩⟩
    exact ⟨_, results_none rfl _ _ _, ⟨_, rfl⟩, .inl HG.out⟩
  case stop =>
    rintro pre W hSp ⟨-, h⟩ hD
    have HG : Hid ((∃ ys, ys = good (wl z n 1100 0) ∧ J ys (W.putObj w2.heap.size (.deferred none))) ∨ (∃ ys, ys <+: good (wl z n 1100 0) ∧ Jx ys (W.putObj w2.heap.size (.deferred none)))) := by
      rcases h with ⟨p, x, rfl, hx, hg, hj⟩ | ⟨hg, hj⟩
      · exact .inl ⟨_, rfl, by rw [good_cut hSp hg hx]; exact HJ.out _ _ _ hj (TurnR.put _ _ ⟨by omega, by omega⟩)⟩
      · exact .inr ⟨_, good_head hSp hg, HJx.out _ _ _ hj (TurnR.put _ _ ⟨by omega, by omega⟩)⟩
    clear h hSp hold3 hpx hbx hJ0 HY
    gi_wp2
    refine ⟨by simp, .inl ⟨_, _, rfl, run_takeDeferred hD, ?_⟩⟩
    exact ⟨_, results_none rfl _ _ _, ⟨_, rfl⟩, HG.out⟩
end Go.Proofs.Ytkbeiadbolihiaa
namespace Go.Proofs.Ytkbeiadbolihiaa
open Go.RowKit Go.Shelf
/-- n bytes as cells. -/
def bts (f : Nat → Nat) (n : Nat) : List Value := (List.range n).map fun i => Value.int .u8 (f i : Nat)
theorem bts_length (f : Nat → Nat) (n : Nat) : (bts f n).length = n := by simp [bts]
theorem bts_get (f : Nat → Nat) {n i : Nat} (h : i < n) : (bts f n)[i]? = some (.int .u8 (f i : Nat)) := by simp [bts, h]
theorem bts_some {f : Nat → Nat} {n j : Nat} {u : Value} (h : (bts f n)[j]? = some u) : j < n ∧ u = .int .u8 (f j : Nat) := by
  by_cases hj : j < n
  · rw [bts_get f hj] at h; exact ⟨hj, by simpa using h.symm⟩
  · rw [List.getElem?_eq_none (by rw [bts_length]; omega)] at h; simp at h
theorem bts_one (f : Nat → Nat) (n : Nat) : ∀ u ∈ bts f n, u.oneCell' = true := by
  intro u hu
  simp only [bts, List.mem_map] at hu
  obtain ⟨i, _, rfl⟩ := hu
  rfl
theorem rd_row {B : Nat} {w : World} {ao : Option Addr} {n cap : Nat} {f : Nat → Nat} (hs : ∀ i, i < n → f i < 256) (h : w.ownsRow B 5 1 (.slice ao n cap) n (bts f n)) : Rd w ao n f := by
  refine ⟨hs, fun hl => ?_⟩
  rcases h.2 with ⟨_, h0⟩ | ⟨g, c, cur, h', hbg, hg, hnc, _, hsz, htake⟩
  · omega
  · simp only [Value.slice.injEq] at h'
    obtain ⟨rfl, _, rfl⟩ := h'
    refine ⟨g, 0, rfl, (Array.getElem?_eq_some_iff.1 hg).1, fun i hi => ?_⟩
    rw [cell_of_row w g (0 + i) cur 5 (0, 0) hg, Nat.zero_add]
    have e : cur.toList[i]? = (bts f n)[i]? := by rw [← htake, List.getElem?_take, if_pos (by omega)]
    rw [← Array.getElem?_toList, e, bts_get f hi]
/-- A slice of bytes that can be read. -/
def RetCb (w : World) (n : Nat) (z : Nat → Nat) (e : Ending) (w' : World) : Prop := ∃ ao cap, e = .returned (.slice ao n cap) ∧ Rd w' ao n z ∧ Below w.heap.size w w'
theorem b_byte : (Try.prog.info? 5).map (fun i => (i.zero, i.size, i.bytes)) = some (some (.int .u8 0), 1, 1) := by kernel_rfl
set_option maxHeartbeats 400000 in
theorem clone_nil (w : World) : Calls Try.prog 14 #[.slice none 0 0] w fun e w' => e = .returned (.slice none 0 0) ∧ w' = w := by
  have hnil := fun w => Lib.run_eql_slice_nil (P := Try.prog) w 22 5 none 0 0 0 0 Try.underlying22
  go_enter Try.func14, Try.ntmps14
  go_wp2
  go_ret
  exact ⟨rfl, rfl⟩
set_option maxHeartbeats 400000 in
theorem clone_some (a : Addr) (l c : Nat) (f : Nat → Nat) (w : World) (hr : Rd w (some a) l f) (hm : (l : Int) ≤ 1024) : Calls Try.prog 14 #[.slice (some a) l c] w (RetCb w l f) := by
  have hnil := fun w => Lib.run_eql_slice_nil (P := Try.prog) w 22 5 (some a) l c 0 0 Try.underlying22
  obtain ⟨i0, hi, hz0, hz1, hz2⟩ := info_parts b_byte
  go_enter Try.func14, Try.ntmps14
  have hnews : ∀ j u, (bts f l)[j]? = some u → (w.alloc (.cells #[] 5)).cell? (a.add j) = some u := by
    intro j u hj
    obtain ⟨hjl, rfl⟩ := bts_some hj
    obtain ⟨b, off, e, hb, hc⟩ := hr.at_ (by omega)
    obtain rfl := Option.some.inj e
    have hcj := hc j hjl
    rw [((Below.refl _ w).alloc (Nat.le_refl _) _).cell (by by_cases h0 : j = 0 <;> simpa [Addr.add, h0] using hb)]
    by_cases h0 : j = 0
    · subst h0; simpa [Addr.add] using hcj
    · simpa [Addr.add, h0] using hcj
  go_wp2_with (at_builtin; refine wpList_append_own _ rfl _ _ 22 rfl w.heap.size 5 i0 (.int .u8 0) 1 1 Try.underlying22 hi hz0 hz1 hz2 rfl (by decide) _ _ _ rfl (World.ownsRow_made (e := 5) (size := 1) (base := w.heap.size) w #[] 0 (Nat.le_refl _) (Nat.zero_le _) rfl) a l c (bts f l) rfl (by simp [bts_length]) hnews (bts_one f l) (by unfold maxLen; omega) (by omega) (by simp) ?_)
  intro v' w2 hown hgr hnil'
  have hb2 : Below w.heap.size w w2 := ((Below.refl _ _).alloc (Nat.le_refl _) _).grown hgr (by simp) (by intro k hk; simp [Value.ownBlock] at hk; omega)
  obtain ⟨g, cap, rfl, hrd⟩ : ∃ g cap, v' = .slice (some ⟨g, 0, none⟩) l cap ∧ Rd w2 (some ⟨g, 0, none⟩) l f := by
    replace hown : w2.ownsRow w.heap.size 5 1 v' l (bts f l) := by simpa using hown
    rcases hown.2 with ⟨h', _⟩ | ⟨g, cap, cur, h', _⟩
    · exact (hnil' h').elim
    · exact ⟨g, cap, h', rd_row (B := w.heap.size) (cap := cap) hr.small (by rw [← h']; exact hown)⟩
  clear hown hgr hnil' hnews hr
  go_wp2
  go_ret
  exact ⟨_, cap, rfl, hrd, hb2⟩
theorem clone_any (ao : Option Addr) (l c : Nat) (f : Nat → Nat) (w : World) (hr : Rd w ao l f) (hm : (l : Int) ≤ 1024) (hn : (ao = none ∧ l = 0 ∧ c = 0) ∨ ∃ a, ao = some a) : Calls Try.prog 14 #[.slice ao l c] w (RetCb w l f) := by
  rcases hn with ⟨rfl, rfl, rfl⟩ | ⟨a, rfl⟩
  · exact (clone_nil w).mono fun e w' ⟨he, hw⟩ => ⟨none, 0, he, ⟨fun i hi => by omega, fun hi => by omega⟩, by rw [hw]; exact Below.refl _ _⟩
  · exact clone_some a l c f w hr hm
theorem Rd.put {w : World} {ao : Option Addr} {n b : Nat} {t : TypeId} {z : Nat → Nat} {x : Option Addr} {l c : Nat} (h : Rd w ao n z) (k : Cl w b t [.slice x l c]) (v : Value) : Rd (w.setCell ⟨b, 0, none⟩ v) ao n z := by
  refine ⟨h.small, fun hl => ?_⟩
  obtain ⟨b', off, e, hlt, hc⟩ := h.at_ hl
  have hne : b' ≠ b := by
    rintro rfl
    have h0 := hc 0 hl
    rw [cell_of_row w b' _ _ t (0, 0) k] at h0
    simp only [Nat.add_zero, List.getElem?_toArray] at h0
    cases off with
    | zero => simp at h0
    | succ o => simp at h0
  refine ⟨b', off, e, by simpa using hlt, fun i hi => ?_⟩
  rw [← hc i hi]
  simp [World.cell?, Below.heap_setCell w ⟨b, 0, none⟩ v b' hne]
/-- The iterator that Tokens answers: over a pattern of its own. -/
def RetTk (w : World) (n : Nat) (z : Nat → Nat) (e : Ending) (w' : World) : Prop :=
  e = .returned (.func (.func 15) #[] #[.pointer (some ⟨w.heap.size, 0, none⟩)]) ∧ ∃ ao cap, Cl w' w.heap.size 22 [.slice ao n cap] ∧ Rd w' ao n z ∧ Below w.heap.size w w'
set_option maxHeartbeats 400000 in
theorem tokens_short (ao : Option Addr) (n c : Nat) (z : Nat → Nat) (w : World) (hr : Rd w ao n z) (hm : (n : Int) ≤ 1024) (hn : (ao = none ∧ n = 0 ∧ c = 0) ∨ ∃ a, ao = some a) : Calls Try.prog 11 #[.slice ao n c] w (RetTk w n z) := by
  have hgt : ¬ (n : Int) > 1024 := by omega
  have k0 := Cl.new w 22 [.slice ao n c]
  obtain ⟨c0, c1⟩ := k0.one
  have hB := (Below.refl w.heap.size w).alloc (Nat.le_refl _) (.cells #[.slice ao n c] 22)
  have HC := clone_any ao n c z (w.alloc (.cells #[.slice ao n c] 22)) (hr.below hB) hm hn
  go_enter Try.func11, Try.ntmps11
  go_wp2_with (go_at_call 14; refine HC.mono ?_; rintro e w1 ⟨ao1, cap1, rfl, hr1, hb1⟩; have k1 := k0.below hb1; obtain ⟨d0, d1⟩ := k1.one)
  go_ret
  exact ⟨rfl, ao1, cap1, k1.set 0 _, hr1.put k1 _, (hB.trans (hb1.mono hB.size)).setCell (p := ⟨w.heap.size, 0, none⟩) (Nat.le_refl _) _⟩
set_option maxHeartbeats 400000 in
theorem tokens_long (ao : Option Addr) (n c : Nat) (z : Nat → Nat) (w : World) (hm : (n : Int) > 1024) : Calls Try.prog 11 #[.slice ao n c] w (RetTk w 0 z) := by
  go_enter Try.func11, Try.ntmps11
  go_wp2_with (go_at_call 14; refine (clone_nil _).mono ?_; rintro e w1 ⟨rfl, rfl⟩)
  go_ret
  exact ⟨rfl, none, 0, Cl.new w 22 [_], ⟨fun i hi => by omega, fun hi => by omega⟩, (Below.refl w.heap.size w).alloc (Nat.le_refl _) _⟩
end Go.Proofs.Ytkbeiadbolihiaa
