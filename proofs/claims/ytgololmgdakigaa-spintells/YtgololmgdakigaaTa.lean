/- The iterator of All, which ranges over windows: the walk. -/
import Derived.Test.YtgololmgdakigaaTw
import Derived.Test.YtgololmgdakigaaRd
import Derived.Shelf.Abstract
namespace Go.Proofs.Ytgololmgdakigaa
open Go.RowKit Go.Shelf
attribute [local go_sem] Oper.semAt_some
attribute [local go_sem] wide_fn
theorem run_store_complex {P : Program} {w : World} {m : Mode} {a : Addr} (k : FloatKind) (x y : Nat) : (store a (.complex k x y) m).run P w = stored P w a (.complex k x y) m := run_store P w a _ m rfl
attribute [local go_sem] run_store_complex
/-- A window as it is told. -/
structure Wn where
  at_ : Nat
  x : Nat
  y : Nat
/-- The windows' fingerprints. -/
def fpP (z : Nat → Nat) (m i : Nat) : Int × Int := ofL (fun j => z (i + j)) m
def Okl (p : Nat → Int × Int) (ys : List Wn) : Prop := ∀ i u, ys[i]? = some u → u.at_ = i ∧ IsC (.complex .f64 u.x u.y) (p i)
theorem Okl.nil (p : Nat → Int × Int) : Okl p [] := fun i u h => by simp at h
theorem Okl.snoc {p : Nat → Int × Int} {ys : List Wn} (h : Okl p ys) {k x y : Nat} (hk : k = ys.length) (hc : IsC (.complex .f64 x y) (p k)) : Okl p (ys ++ [⟨k, x, y⟩]) := fun i u hu => by
  subst hk
  rcases Nat.lt_trichotomy i ys.length with hi | hi | hi
  · rw [List.getElem?_append_left hi] at hu
    exact h i u hu
  · subst hi
    rw [List.getElem?_append_right (Nat.le_refl _), Nat.sub_self] at hu
    simp at hu
    subst hu
    exact ⟨rfl, hc⟩
  · rw [List.getElem?_eq_none (by rw [List.length_append, List.length_singleton]; omega)] at hu
    cases hu
theorem yield_any {m : Nat} (m' : Nat) {P : Program} {l : Nat} {args : Array Value} {W : World} {R : Ending → World → Prop} (h : YieldAt Fence.wide m P l args W R) : YieldAt Fence.wide m' P l args W R := by
  obtain ⟨fn, tmps, assign, body, hy, hR⟩ := h
  exact ⟨fn, tmps, assign, body, hy, hR.1, fun c cs _ => hR.2 c cs (fun d h => by cases h)⟩
theorem Rd.old {A B : World} {ao : Option Addr} {n : Nat} {z : Nat → Nat} (h : Rd A ao n z) (hs : A.heap.size ≤ B.heap.size) (ho : ∀ k, k < A.heap.size → B.heap[k]? = A.heap[k]?) : Rd B ao n z := by
  refine ⟨h.small, fun hn => ?_⟩
  obtain ⟨b, off, e, hb, hc⟩ := h.at_ hn
  refine ⟨b, off, e, Nat.lt_of_lt_of_le hb hs, fun i hi => ?_⟩
  have q : ∀ j, B.cell? ⟨b, j, none⟩ = A.cell? ⟨b, j, none⟩ := fun j => by simp only [World.cell?]; rw [ho b hb]
  rw [q]
  exact hc i hi
theorem windows_any (ao : Option Addr) (n cap : Nat) (m : Int) (w : World) : Calls Try.prog 29 #[.slice ao n cap, .int .i64 m] w fun e w' => e = .returned (.func (.func 32) #[] #[.pointer (some ⟨w.heap.size + 1, 0, none⟩), .pointer (some ⟨w.heap.size, 0, none⟩)]) ∧ w' = (w.alloc (.cells #[.slice ao n cap] 22)).alloc (.cells #[.int .i64 m] 3) := by
  go_enter Try.func29, Try.ntmps29
  go_wp2
  go_ret
  exact ⟨rfl, rfl⟩
/-- What holds between rounds, beside what the caller holds. -/
structure TaI (w : World) (b mt : Nat) (z : Nat → Nat) (J : List Wn → World → Prop) (pre : List Nat) (W : World) : Prop where
  inv : ∃ ys : List Wn, ys.length = pre.length ∧ Okl (fpP z mt) ys ∧ J ys W
  box : Cl W (b + 2) 57 [.func (.yield (b + 1)) #[] #[]]
  zb : ∃ x y, Cl W (b + 3) 27 [.complex .f64 x y] ∧ (0 < pre.length → IsC (.complex .f64 x y) (fpP z mt (pre.length - 1)))
  old : ∀ k, k < w.heap.size → W.heap[k]? = w.heap[k]?
def TaX (n : Nat) (m : Int) (mt : Nat) (z : Nat → Nat) (Jx : List Wn → World → Prop) (c : Code) (_ : List Nat) (W : World) : Prop := c = .ret ∧ ∃ ys : List Wn, ys.length ≤ cntW n m ∧ Okl (fpP z mt) ys ∧ Jx ys W
def TaF (b b1 b2 q off : Nat) (ao : Option Addr) (n cap : Nat) (m : Int) (mt : Nat) (x : Nat) : Act := ⟨#[.func (.yield (b + 1)) #[] #[], .pointer (some ⟨b1, 0, none⟩), .pointer (some ⟨b2, 0, none⟩), .pointer (some ⟨b + 2, 0, none⟩), .pointer (some ⟨b + 3, 0, none⟩), .int .i64 (x : Nat), winV q off cap mt x, .slice ao n cap, .int .i64 m, .func (.func 32) #[] #[.pointer (some ⟨b + 5, 0, none⟩), .pointer (some ⟨b + 4, 0, none⟩)], .int .i64 (x : Nat), winV q off cap mt x, undef, undef, undef, undef, undef, undef, undef, undef, undef, undef, undef, undef, undef, undef, undef, undef, undef, undef, undef, undef, undef, undef], []⟩
def TaOld (w : World) (b : Nat) (k : Nat) : Prop := k < w.heap.size ∨ k = b + 4 ∨ k = b + 5
/-- Behind the store of the new fingerprint. -/
structure T2 (w W : World) (b zx zy : Nat) (W2 : World) : Prop where
  turn : TurnR (b + 2) (b + 8) W W2
  box : Cl W2 (b + 2) 57 [.func (.yield (b + 1)) #[] #[]]
  zc : Cl W2 (b + 3) 27 [.complex .f64 zx zy]
  old : ∀ k, k < w.heap.size → W2.heap[k]? = w.heap[k]?
  keep : KeepR (b + 6) (b + 8) (TaOld w b) W W2
theorem T2.of {w W U : World} {b mt x0 y0 zx zy : Nat} {z : Nat → Nat} {J : List Wn → World → Prop} {pre : List Nat} (hI : TaI w b mt z J pre W) (hb : Below W.heap.size W U) (hz : Cl W (b + 3) 27 [.complex .f64 x0 y0]) (hwb : w.heap.size ≤ b) (hsz : b + 8 ≤ W.heap.size) : T2 w W b zx zy (U.setCell ⟨b + 3, 0, none⟩ (.complex .f64 zx zy)) := by
  have h2 := (Below.refl (b + 3) U).setCell (p := ⟨b + 3, 0, none⟩) (Nat.le_refl _) (.complex .f64 zx zy)
  have hss : ∀ k, k ≠ b + 3 → (U.setCell ⟨b + 3, 0, none⟩ (.complex .f64 zx zy)).heap[k]? = U.heap[k]? := fun k hk => Below.heap_setCell _ _ _ _ hk
  have hsw : ∀ k, k < W.heap.size → k ≠ b + 3 → (U.setCell ⟨b + 3, 0, none⟩ (.complex .f64 zx zy)).heap[k]? = W.heap[k]? := fun k hk hne => (hss k hne).trans (hb.block k hk)
  have hsize := Nat.le_trans hb.size h2.size
  refine ⟨⟨h2.os.trans hb.os, h2.tape.trans hb.tape, h2.output.trans hb.output, hsize, fun k hk hd => hsw k hk (by omega)⟩, hI.box.same (hsw _ hI.box.lt (by omega)), ?_, fun k hk => (hsw k (by omega) (by omega)).trans (hI.old k hk), ⟨hsize, fun k hk => hsw k ?_ ?_⟩⟩
  · have := (hz.below hb).set 0 (.complex .f64 zx zy)
    simpa using this
  · unfold TaOld at hk; omega
  · unfold TaOld at hk; omega
theorem T2.yes {w W W2 W3 : World} {b mt zx zy : Nat} {z : Nat → Nat} {J : List Wn → World → Prop} {pre : List Nat} {ys : List Wn} (h : T2 w W b zx zy W2) (hl : ys.length = pre.length) (ho : Okl (fpP z mt) ys) (hc : IsC (.complex .f64 zx zy) (fpP z mt pre.length)) (hj : J (ys ++ [⟨pre.length, zx, zy⟩]) W3) (hk : KeepR (b + 2) (b + 8) (fun k => k < w.heap.size) W2 W3) :
    KeepR (b + 6) (b + 8) (TaOld w b) W W3 ∧ TaI w b mt z J (pre ++ [pre.length]) W3 := by
  refine ⟨h.keep.trans ⟨hk.size, fun k hkk => hk.same k (by unfold TaOld at hkk; omega)⟩, ⟨_, by simp [hl], ho.snoc hl.symm hc, hj⟩, h.box.same (hk.same _ (.inr ⟨by omega, by omega⟩)), ⟨zx, zy, h.zc.same (hk.same _ (.inr ⟨by omega, by omega⟩)), fun _ => ?_⟩, fun k hkk => (hk.same k (.inl hkk)).trans (h.old k hkk)⟩
  rw [List.length_append, List.length_singleton, Nat.add_sub_cancel]
  exact hc
theorem T2.no {w W W2 W3 : World} {b mt zx zy n : Nat} {m : Int} {z : Nat → Nat} {Jx : List Wn → World → Prop} {pre : List Nat} {ys : List Wn} (h : T2 w W b zx zy W2) (hl : ys.length = pre.length) (hlt : pre.length < cntW n m) (ho : Okl (fpP z mt) ys) (hc : IsC (.complex .f64 zx zy) (fpP z mt pre.length)) (hj : Jx (ys ++ [⟨pre.length, zx, zy⟩]) W3) (hk : KeepR (b + 2) (b + 8) (fun k => k < w.heap.size) W2 W3) :
    KeepR (b + 6) (b + 8) (TaOld w b) W W3 ∧ TaX n m mt z Jx .ret (pre ++ [pre.length]) W3 :=
  ⟨h.keep.trans ⟨hk.size, fun k hkk => hk.same k (by unfold TaOld at hkk; omega)⟩, rfl, _, by rw [List.length_append, List.length_singleton]; omega, ho.snoc hl.symm hc, hj⟩
set_option maxRecDepth 100000 in
set_option maxHeartbeats 4000000 in
theorem all_seq (b b1 b2 : Nat) (ao : Option Addr) (n cap : Nat) (m : Int) (mt : Nat) (z : Nat → Nat) (w w1 : World) (k1 : Cl w b1 22 [.slice ao n cap]) (k2 : Cl w b2 3 [.int .i64 m]) (hr : Rd w ao n z) (hmt : m.toNat = mt) (hn : n ≤ 2000) (hm1 : -9223372036854775808 ≤ m) (hm2 : m < 9223372036854775808) (hc : n ≤ cap) (hwb : w.heap.size ≤ b) (hold : ∀ k, k < w.heap.size → w1.heap[k]? = w.heap[k]?) :
    SeqR Fence.wide 4 Try.prog b (b + 8) (fun k => k < w.heap.size) 28 #[.pointer (some ⟨b1, 0, none⟩), .pointer (some ⟨b2, 0, none⟩)] (fun u : Wn => #[.int .i64 (u.at_ : Nat), .complex .f64 u.x u.y]) (fun _ _ => True) (fun ys => ys.length = cntW n m ∧ Okl (fpP z mt) ys) (fun pre => pre.length ≤ cntW n m ∧ Okl (fpP z mt) pre) 4096 w1 := by
  intro J Jx W hb hsW hJ hJx hY h0
  have hl1 := k1.lt
  have hl2 := k2.lt
  have hold2 : ∀ k, k < w.heap.size → W.heap[k]? = w.heap[k]? := fun k hk => (hb.block k (by omega)).trans (hold k hk)
  obtain ⟨q, off, hs⟩ : ∃ q off, 0 < n → ao = some ⟨q, off, none⟩ := by
    by_cases h : 0 < n
    · obtain ⟨q, off, e, _⟩ := hr.at_ h
      exact ⟨q, off, fun _ => e⟩
    · exact ⟨0, 0, fun h' => (h h').elim⟩
  have c1 := (((k1.same (hold2 _ hl1)).alloc (.cells #[.func (.yield (b + 1)) #[] #[]] 57)).alloc (.cells #[.complex .f64 0 0] 27)).cell 0 rfl
  have c2 := (((k2.same (hold2 _ hl2)).alloc (.cells #[.func (.yield (b + 1)) #[] #[]] 57)).alloc (.cells #[.complex .f64 0 0] 27)).cell 0 rfl
  have hB4 : Below W.heap.size W ((((W.alloc (.cells #[.func (.yield (b + 1)) #[] #[]] 57)).alloc (.cells #[.complex .f64 0 0] 27)).alloc (.cells #[.slice ao n cap] 22)).alloc (.cells #[.int .i64 m] 3)) := ((below2 W _ _).alloc (by simp; omega) _).alloc (by simp; omega) _
  have hbx : Cl ((((W.alloc (.cells #[.func (.yield (b + 1)) #[] #[]] 57)).alloc (.cells #[.complex .f64 0 0] 27)).alloc (.cells #[.slice ao n cap] 22)).alloc (.cells #[.int .i64 m] 3)) (b + 2) 57 [.func (.yield (b + 1)) #[] #[]] := by rw [← hsW]; exact (((Cl.new W 57 [_]).alloc _).alloc _).alloc _
  have hzx : Cl ((((W.alloc (.cells #[.func (.yield (b + 1)) #[] #[]] 57)).alloc (.cells #[.complex .f64 0 0] 27)).alloc (.cells #[.slice ao n cap] 22)).alloc (.cells #[.int .i64 m] 3)) (b + 3) 27 [.complex .f64 0 0] := by
    have := ((Cl.new (W.alloc (.cells #[.func (.yield (b + 1)) #[] #[]] 57)) 27 [.complex .f64 0 0]).alloc (.cells #[.slice ao n cap] 22)).alloc (.cells #[.int .i64 m] 3)
    simpa [hsW] using this
  have hwx : Cl ((((W.alloc (.cells #[.func (.yield (b + 1)) #[] #[]] 57)).alloc (.cells #[.complex .f64 0 0] 27)).alloc (.cells #[.slice ao n cap] 22)).alloc (.cells #[.int .i64 m] 3)) (b + 4) 22 [.slice ao n cap] := by
    have := (Cl.new ((W.alloc (.cells #[.func (.yield (b + 1)) #[] #[]] 57)).alloc (.cells #[.complex .f64 0 0] 27)) 22 [.slice ao n cap]).alloc (.cells #[.int .i64 m] 3)
    simpa [hsW] using this
  have hnx : Cl ((((W.alloc (.cells #[.func (.yield (b + 1)) #[] #[]] 57)).alloc (.cells #[.complex .f64 0 0] 27)).alloc (.cells #[.slice ao n cap] 22)).alloc (.cells #[.int .i64 m] 3)) (b + 5) 3 [.int .i64 m] := by
    have := Cl.new (((W.alloc (.cells #[.func (.yield (b + 1)) #[] #[]] 57)).alloc (.cells #[.complex .f64 0 0] 27)).alloc (.cells #[.slice ao n cap] 22)) 3 [.int .i64 m]
    simpa [hsW] using this
  have hJ0 : J [] ((((W.alloc (.cells #[.func (.yield (b + 1)) #[] #[]] 57)).alloc (.cells #[.complex .f64 0 0] 27)).alloc (.cells #[.slice ao n cap] 22)).alloc (.cells #[.int .i64 m] 3)) := hJ _ _ _ h0 (TurnR.of_below hB4)
  have HJ : Hid (∀ s A B, J s A → TurnR (b + 2) (b + 8) A B → J s B) := hJ
  have HJx : Hid (∀ s A B, Jx s A → TurnR (b + 2) (b + 8) A B → Jx s B) := hJx
  have HY : Hid (∀ (pre : List Wn) x W1, J pre W1 → True → b + 8 ≤ W1.heap.size → pre.length < 4096 → YieldAt Fence.wide (4 - 1) Try.prog (b + 1) #[.int .i64 (x.at_ : Nat), .complex .f64 x.x x.y] W1 fun e W' =>
      ((e = .returned (.bool true) ∧ J (pre ++ [x]) W') ∨ (e = .returned (.bool false) ∧ Jx (pre ++ [x]) W')) ∧ KeepR (b + 2) (b + 8) (fun k => k < w.heap.size) W1 W') := hY
  have HR : Hid (Rd w ao n z) := hr
  have HW := fun W => windows_any ao n cap m W
  have HK : Hid (Cl w b1 22 [.slice ao n cap] ∧ Cl w b2 3 [.int .i64 m]) := ⟨k1, k2⟩
  clear hJ hJx hY h0 hr hb hold k1 k2
  show CallsIn Fence.wide 4 Try.prog 28 #[.func (.yield (b + 1)) #[] #[], .pointer (some ⟨b1, 0, none⟩), .pointer (some ⟨b2, 0, none⟩)] W _
  refine callsIn_of_wp_marks Try.func28 rfl trivial ?_ rfl
  simp only [Try.ntmps28, List.size_toArray, List.length_cons, List.length_nil, Nat.reduceAdd, Nat.reduceSub, Array.replicate_succ, Array.replicate_zero, List.push_toArray, List.append_toArray, List.nil_append, List.cons_append]
  gi_wp2_with ((try (refine ⟨fun hd => (by cases hd), ?_⟩)); gi_at_call 29; refine (callsIn_wide.2 (HW _)).mono ?_; rintro e w1 ⟨rfl, rfl⟩)
  generalize hw2 : (((W.alloc (.cells #[.func (.yield (b + 1)) #[] #[]] 57)).alloc (.cells #[.complex .f64 0 0] 27)).alloc (.cells #[.slice ao n cap] 22)).alloc (.cells #[.int .i64 m] 3) = w2 at *
  have hs2 : w2.heap.size = b + 6 := by rw [← hw2]; simp [hsW]
  have hold3 : ∀ k, k < w.heap.size → w2.heap[k]? = w.heap[k]? := fun k hk => (hB4.block k (by omega)).trans (hold2 k hk)
  clear hw2 HW c1 c2 hB4 hold2
  simp only [show b + 2 + 1 + 1 + 1 = b + 5 from rfl, show b + 2 + 1 + 1 = b + 4 from rfl, show b + 2 + 1 = b + 3 from rfl]
  have hseq := windows_seq 3 4096 w2.heap.size (b + 5) (b + 4) q off ao n cap m (TaOld w b) w2 (.inr (.inr rfl)) (.inr (.inl rfl)) hnx hwx (by omega) (by omega) (by omega) hm1 hm2 hc hs (by omega)
  rw [hmt] at hseq
  refine wpIn_rangeFunc_turnR (n := 4) rfl (by decide) (gf := 32) (lb := #[.pointer (some ⟨b + 5, 0, none⟩), .pointer (some ⟨b + 4, 0, none⟩)]) rfl trivial (enters_of Try.func32 (by kernel_rfl) rfl)
    (encs := fun k : Nat => #[.int .i64 (k : Nat), winV q off cap mt k]) (V := fun pre k => k = pre.length ∧ k < cntW n m) (S := fun ys => ys = List.range (cntW n m)) (Sp := fun pre => ∃ k, k ≤ cntW n m ∧ pre = List.range k) (N := 4096) (hi := w2.heap.size + 2) (Nat.le_refl _) (TaOld w b) (fun k hk => by unfold TaOld at hk; omega)
    hseq (fun _ => rfl)
    (TaI w b mt z J) (TaX n m mt z Jx) (fun s A B h ht => ?_) (fun c s A B h ht => ?_) ⟨⟨[], rfl, Okl.nil _, hJ0⟩, hbx, ⟨0, 0, hzx, fun h => absurd h (by simp)⟩, hold3⟩
    (fun x a' _ => a' = TaF b b1 b2 q off ao n cap m mt x) (fun x a' A B h ht => h) ?assign ?body ?done ?stop
  · obtain ⟨⟨ys, h1, h2, h3⟩, h4, ⟨zx, zy, h5, h6⟩, h7⟩ := h
    exact ⟨⟨ys, h1, h2, HJ.out _ _ _ h3 (ht.wide (by omega) (by omega))⟩, h4.turnR ht (by omega), ⟨zx, zy, h5.turnR ht (by omega), h6⟩, fun k hk => (ht.block k (by have := h4.lt; omega) (by omega)).trans (h7 k hk)⟩
  · obtain ⟨hc, ys, h1, h2, h3⟩ := h
    exact ⟨hc, ys, h1, h2, HJx.out _ _ _ h3 (ht.wide (by omega) (by omega))⟩
  case assign =>
    intro pre x W K hI hsz hK
    have HX : Hid (∀ a', a' = TaF b b1 b2 q off ao n cap m mt x → K a' W) := fun a' h => hK a' W ⟨Nat.le_refl _, fun _ _ => rfl⟩ hI h
    clear hI hold3 hbx hJ0 HY hK hzx hwx hnx hseq
    unfold winV at *
    gi_wp2
    exact HX.out _ rfl
  case body =>
    rintro pre x a' W hI ⟨hx, hlt⟩ rfl hsz hlen
    subst hx
    have hm1' : 1 ≤ m := by unfold cntW at hlt; split at hlt <;> omega
    obtain rfl : m = (mt : Nat) := by omega
    have hlm : pre.length + mt ≤ n := by unfold cntW at hlt; rw [if_neg (by omega)] at hlt; omega
    obtain ⟨ys, hyl, hyo, hyJ⟩ := hI.inv
    obtain ⟨zx, zy, hzc, hzi⟩ := hI.zb
    obtain rfl := hs (by omega)
    have hws : w.heap.size ≤ W.heap.size := by omega
    have d1 := (HK.out.1.same (hI.old _ hl1)).cell 0 rfl
    have d2 := (HK.out.2.same (hI.old _ hl2)).cell 0 rfl
    have hrd := HR.out.old hws hI.old
    have z0 := hzc.cell 0 rfl
    have z1 := hzc.frozen 0
    rw [hs2] at hsz
    have hsz8 : b + 8 ≤ W.heap.size := by omega
    unfold TaF winV
    by_cases h0 : pre.length = 0
    · obtain rfl : pre = [] := List.length_eq_zero_iff.1 h0
      have HO : Hid (∀ W', Below W.heap.size W W' → Calls Try.prog 15 #[.slice (some ⟨q, off, none⟩) mt cap] W' fun e w' => (∃ v, e = .returned v ∧ IsC v (fpP z mt 0)) ∧ w' = W') := fun W' h => of_any _ mt _ _ W' ((hrd.part (k := 0) (m := mt) (by omega) (by omega)).below h) (by omega)
      clear hrd hzi hold3 hbx hJ0 hzx hwx hnx hseq h0
      simp only [List.length_nil, Nat.add_zero, Nat.sub_zero]
      gi_wp2_with ((try (refine ⟨fun hd => (by cases hd), ?_⟩)); gi_at_call 15; refine ((callsIn_wide.2 (HO.out _ (Below.refl _ _))).inRound _).mono ?_; rintro e wx ⟨⟨vx, rfl, gx⟩, hwx0⟩; have hwx9 := hwx0.symm; clear hwx0; subst hwx9; obtain ⟨ax, bx, rfl⟩ := gx.is; have HZ2 : T2 w W b ax bx (W.setCell ⟨b + 3, 0, none⟩ (.complex .f64 ax bx)) := T2.of hI (Below.refl _ _) hzc hwb hsz8; obtain ⟨fn, tmps, assign, body, hy, hR⟩ := yield_any 1 (HY.out ys ⟨([] : List Nat).length, ax, bx⟩ (W.setCell ⟨b + 3, 0, none⟩ (.complex .f64 ax bx)) (HJ.out _ _ _ hyJ HZ2.turn) trivial (Nat.le_trans hsz8 HZ2.turn.size) (by omega)); have HY2 : Hid _ := HZ2; have y0 := HZ2.box.cell 0 rfl; have y1 := HZ2.zc.cell 0 rfl; have HIs : Hid (IsC (.complex .f64 ax bx) (fpP z mt ([] : List Nat).length)) := gx; have HYo : Hid (ys.length = ([] : List Nat).length ∧ Okl (fpP z mt) ys) := ⟨hyl, hyo⟩; change (Instr.yield (b + 1) #[.int .i64 0, .complex .f64 ax bx]).run Try.prog _ = _ at hy; clear d1 d2 hzc HO; clear HZ2 hyo hyJ hI HJ HJx HY)
      refine hR.mono ?_
      clear hR hy y0 y1
      rintro e W3 ⟨(⟨rfl, hX⟩ | ⟨rfl, hX⟩), hk⟩
      · have HG : Hid _ := HY2.out.yes (pre := []) HYo.out.1 HYo.out.2 HIs.out hX hk
        clear hX hk
        gi_wp2
        simp only [turnPostR, hs2]
        exact HG.out
      · have HG : Hid _ := HY2.out.no (pre := []) (n := n) (m := (mt : Nat)) HYo.out.1 hlt HYo.out.2 HIs.out hX hk
        clear hX hk
        gi_wp2
        simp only [turnPostR, hs2]
        exact HG.out
    · have hL1 : 1 ≤ pre.length := by omega
      have h9 : ((pre.length : Int) == 0) = false := beq_eq_false_iff_ne.2 (by omega)
      have hrw := hrd
      obtain ⟨_, _, e, hqb, hcs⟩ := hrd.at_ (by omega)
      cases e
      have e1 := hcs (pre.length - 1) (by omega)
      have e2 := hcs (pre.length + mt - 1) (by omega)
      have s1 := hrw.small (pre.length - 1) (by omega)
      have s2 := hrw.small (pre.length + mt - 1) (by omega)
      have hzi2 := hzi (by omega)
      have hroll : rollP (fpP z mt (pre.length - 1)) mt (z (pre.length - 1)) (z (pre.length + mt - 1)) = fpP z mt pre.length := by
        have := roll_is (fun j => z (pre.length - 1 + j)) mt (by omega)
        unfold rollP fpP
        rw [Nat.add_zero, show pre.length - 1 + mt = pre.length + mt - 1 by omega] at this
        rw [this]
        exact ofL_congr fun i _ => by congr 1; omega
      have mW : Wd (fpP z mt (pre.length - 1)) 15728640 := (ofL_wd fun i hi => hrw.small _ (by omega)).mono (by omega)
      have HO : Hid (∀ W', Calls Try.prog 21 #[.complex .f64 zx zy, .int .i64 (mt : Nat), .int .u8 (z (pre.length - 1) : Nat), .int .u8 (z (pre.length + mt - 1) : Nat)] W' fun e w' => (∃ v, e = .returned v ∧ IsC v (fpP z mt pre.length)) ∧ w' = W') := fun W' => by
        have := roll_any zx zy _ mt (z (pre.length - 1)) (z (pre.length + mt - 1)) W' hzi2 (mW.mono (by decide)) s1 s2 (by omega)
        rwa [hroll] at this
      obtain ⟨L, hL⟩ : ∃ L, L = pre.length := ⟨_, rfl⟩
      have hLn : L + mt ≤ n := by omega
      have hL0 : 1 ≤ L := by omega
      rw [← hL] at HO h9 e1 e2
      rw [show off + (L + mt - 1) = off + L + (mt - 1) by omega] at e2
      simp only [← hL]
      have HL : Hid (L = pre.length ∧ pre.length < cntW n (mt : Nat) ∧ ys.length = pre.length ∧ pre.length < 4096) := ⟨hL, hlt, hyl, hlen⟩
      clear hL hlt hyl hlm hL1 hlen
      clear hrd hrw hcs hzi hzi2 hold3 hbx hJ0 hzx hwx hnx hseq hroll mW s1 s2 h0
      generalize z (L - 1) = zo at *
      generalize z (L + mt - 1) = zn at *
      gi_wp2_with fail
      have n1 := Near.cell e1 hqb
      have n2 := Near.cell e2 hqb
      have n3 := Near.cell d1 (by omega)
      have n4 := Near.cell d2 (by omega)
      have n5 := Near.cell z0 hzc.lt
      have hw1 : IntKind.i64.wrap ((L : Int) - 1) = ((L - 1 : Nat) : Int) := by rw [IntKind.wrap_i64]; omega
      have hw2 : IntKind.i64.wrap ((mt : Int) - 1) = ((mt - 1 : Nat) : Int) := by rw [IntKind.wrap_i64]; omega
      have hi1 : L - 1 < n := by omega
      have hi2 : mt - 1 < mt := by omega
      refine round_quiet_tail 12 (fun w' => ∃ u : World, w' = near W u) (by kernel_rfl) (by kernel_rfl) (by kernel_rfl) (fun ⟨_, _, h⟩ => h) (Near.start _) ?_
      simp only [List.take_succ_cons, List.take_zero, List.drop_succ_cons, List.drop_zero]
      repeat (go_big_quiet_step (fail))
      refine wpQuiet_nil ?_
      rintro _ ⟨u, rfl⟩
      have hnb := near_below W u
      clear n1 n2 n3 n4 n5 hw1 hw2 hi1 hi2 e1 e2 d1 d2 z0 z1
      have z0 := (hzc.below hnb).cell 0 rfl
      have z1 := (hzc.below hnb).frozen 0
      go_wp2_with (go_at_call 21; refine (HO.out _).mono ?_; rintro e wx ⟨⟨vx, rfl, gx⟩, hwx0⟩; subst hwx0; obtain ⟨ax, bx, rfl⟩ := gx.is; have HZ2 : T2 w W b ax bx ((near W u).setCell ⟨b + 3, 0, none⟩ (.complex .f64 ax bx)) := T2.of hI hnb hzc hwb hsz8; obtain ⟨fn, tmps, assign, body, hy, hR⟩ := yield_any 1 (HY.out ys ⟨L, ax, bx⟩ ((near W u).setCell ⟨b + 3, 0, none⟩ (.complex .f64 ax bx)) (HJ.out _ _ _ hyJ HZ2.turn) trivial (Nat.le_trans hsz8 HZ2.turn.size) (by have := HL.out; omega)); have HY2 : Hid _ := HZ2; have y0 := HZ2.box.cell 0 rfl; have y1 := HZ2.zc.cell 0 rfl; have HIs : Hid (IsC (.complex .f64 ax bx) (fpP z mt L)) := gx; have HYo : Hid (ys.length = L ∧ Okl (fpP z mt) ys) := ⟨HL.out.2.2.1.trans HL.out.1.symm, hyo⟩; change (Instr.yield (b + 1) #[.int .i64 (L : Nat), .complex .f64 ax bx]).run Try.prog _ = _ at hy; clear hzc HO HZ2 hyo hyJ hI HJ HJx HY)
      gi_wp2
      obtain ⟨hL, hlt, hyl, hlen⟩ := HL.out
      clear HL
      subst hL
      refine hR.mono ?_
      clear hR hy y0 y1
      rintro e W3 ⟨(⟨rfl, hX⟩ | ⟨rfl, hX⟩), hk⟩
      · have HG : Hid _ := HY2.out.yes (pre := pre) HYo.out.1 HYo.out.2 HIs.out hX hk
        clear hX hk
        gi_wp2
        simp only [turnPostR, hs2]
        exact HG.out
      · have HG : Hid _ := HY2.out.no (pre := pre) (n := n) (m := (mt : Nat)) HYo.out.1 hlt HYo.out.2 HIs.out hX hk
        clear hX hk
        gi_wp2
        simp only [turnPostR, hs2]
        exact HG.out
  case done =>
    rintro xs W rfl hI hD
    have HG : Hid (∃ ys, (ys.length = cntW n m ∧ Okl (fpP z mt) ys) ∧ J ys (W.putObj w2.heap.size (.deferred none))) := by
      obtain ⟨ys, h1, h2, h3⟩ := hI.inv
      exact ⟨ys, ⟨by rw [h1, List.length_range], h2⟩, HJ.out _ _ _ h3 (TurnR.put _ _ ⟨by omega, by omega⟩)⟩
    clear hI hold3 hbx hJ0 HY hzx hwx hnx hseq
    gi_wp2
    refine ⟨by simp, .inl ⟨_, _, rfl, run_takeDeferred hD, ?_⟩⟩
    exact ⟨_, results_none rfl _ _ _, ⟨_, rfl⟩, .inl HG.out⟩
  case stop =>
    rintro c pre W hSp ⟨rfl, ys, h1, h2, h3⟩ hD
    have HG : Hid (∃ ys : List Wn, (ys.length ≤ cntW n m ∧ Okl (fpP z mt) ys) ∧ Jx ys (W.putObj w2.heap.size (.deferred none))) := ⟨ys, ⟨h1, h2⟩, HJx.out _ _ _ h3 (TurnR.put _ _ ⟨by omega, by omega⟩)⟩
    clear h1 h2 h3 hSp hold3 hbx hJ0 HY hzx hwx hnx hseq
    gi_wp2
    refine ⟨by simp, .inl ⟨_, _, rfl, run_takeDeferred hD, ?_⟩⟩
    exact ⟨_, results_none rfl _ _ _, ⟨_, rfl⟩, .inr HG.out⟩
end Go.Proofs.Ytgololmgdakigaa
