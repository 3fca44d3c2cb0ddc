/- The law's ends: what Ends goes through, in a slice of its own: the walk. -/
import Derived.Test.YtehlmjjdegmnaaaDoorIt
import Derived.Test.YtehlmjjdegmnaaaDoorEn
namespace Go.Proofs.YtehlmjjdegmnaaaDoor
open Go.RowKit Go.Shelf
attribute [local go_sem] Oper.semAt_some
/-- A row of numbers as values. -/
def ints (l : List Nat) : List Value := l.map fun x => Value.int .i64 (x : Nat)
theorem ints_len (l : List Nat) : (ints l).length = l.length := by simp [ints]
/-- What a call answers that makes a list: the list, in memory of its own; nothing old has turned. -/
def RetInts (w : World) (l : List Nat) (e : Ending) (w' : World) : Prop := ∃ v, e = .returned v ∧ w'.ownsRow w.heap.size 3 1 v l.length (ints l) ∧ Below w.heap.size w w'
theorem ownsRow_mono {B B' : Nat} {w : World} {t : TypeId} {v : Value} {n : Nat} {xs : List Value} (h : w.ownsRow B t 1 v n xs) (hB : B' ≤ B) : w.ownsRow B' t 1 v n xs :=
  ⟨h.1, h.2.imp id fun ⟨g, cap, cur, e, hg, r⟩ => ⟨g, cap, cur, e, Nat.le_trans hB hg, r⟩⟩
theorem boxed_appended {W w1 : World} {n₀ B : Nat} {t e : TypeId} {v v' : Value} {k m : Nat} {xs ys : List Value} {tmp : Obj}
    (hv : Boxed W B t v) (hte : t ≠ e) (hrow : W.ownsRow n₀ e 1 v k xs) (hn₀ : n₀ ≤ W.heap.size) (hBn : B ≤ n₀)
    (hown' : w1.ownsRow n₀ e 1 v' m ys) (hgrow : (W.alloc tmp).grownBy w1 v.ownBlock) :
    Boxed w1 B t v ∧ Boxed (w1.setCell ⟨B, 0, none⟩ v') B t v' ∧ (w1.setCell ⟨B, 0, none⟩ v').ownsRow n₀ e 1 v' m ys ∧ KeepsOthers W (w1.setCell ⟨B, 0, none⟩ v') ∧ Exc B n₀ W (w1.setCell ⟨B, 0, none⟩ v') ∧ Below B W (w1.setCell ⟨B, 0, none⟩ v') := by
  obtain ⟨h1, h2, _, h4, h5⟩ := Boxed.appended hv hte (ownsRow_mono hrow hBn) (by omega) (Nat.le_refl B) (ownsRow_mono hown' hBn) hgrow
  refine ⟨h1, h2, hown'.kept (grownBy_setCell' w1 B v') (.inr (h1.not_row hte hown').symm), h4, ⟨h5.size, fun j hj hn => ?_⟩, h5⟩
  rw [Below.heap_setCell _ _ _ _ hn, hgrow.block j (by simp; omega) ?_, Below.heap_alloc W tmp j (by omega)]
  intro e'
  have := (hrow.lt j e'.symm).1
  omega
theorem Tryd.info3' : (Tryd.prog.info? 3).map (fun i => (i.zero, i.size, i.bytes)) = some (some (.int .i64 0), 1, 8) := by kernel_rfl
set_option maxRecDepth 100000 in
set_option maxHeartbeats 2000000 in
/-- ends. -/
theorem ends_any {a b c d a' b' c' d' : Nat} {lo hi : Int} {lo' hi' : Nat} {P : Nat → Bool} (w : World) (zo : Option Addr) (l lc : Nat) (z : Nat → Int) (ao : Option Addr) (n cap : Nat) (t : Nat → Nat)
    (HS : ∀ w, Calls Tryd.prog 24 #[rgV a b c d lo hi] w fun e w' => e = .returned (rgV a' b' c' d' lo' hi') ∧ Below w.heap.size w w') (hP : C4 P a' b' c' d') (hlo : lo' ≤ 1000) (hhi : hi' ≤ 1000)
    (hz : RdI w zo l z) (hl : (l : Int) ≤ 9223372036854775807) (ht : RdB w ao n t) (hn : n ≤ 1000) (hnil : (ao = none ∧ n = 0 ∧ cap = 0) ∨ ∃ a, ao = some a) :
    Calls Tryd.prog 21 #[rgV a b c d lo hi, .slice zo l lc, .slice ao n cap] w (RetInts w (come (accF P lo' hi' (among z l) t) (n + 1))) := by
  obtain ⟨i0, hi0, hz0, hz1, hz2⟩ := info_parts Tryd.info3'
  have hB0 := below_two w (.cells #[.int .u64 (a : Nat), .int .u64 (b : Nat), .int .u64 (c : Nat), .int .u64 (d : Nat), .int .i64 lo, .int .i64 hi] 26) (.cells #[.slice none 0 0] 45)
  have bO := Boxed.new (w.alloc (.cells #[.int .u64 (a : Nat), .int .u64 (b : Nat), .int .u64 (c : Nat), .int .u64 (d : Nat), .int .i64 lo, .int .i64 hi] 26)) 45 (.slice none 0 0)
  rw [World.size_alloc] at bO
  have heq : ∀ (fn : Fn) (a b : Array Value) (w : World), (Go.binOp BinOp.eql 56 (.func fn a b) .nilFunc).run Tryd.prog w = Result.ok (.bool false) w := fun _ _ _ _ => rfl
  have HE := ends_mk ((w.alloc (.cells #[.int .u64 (a : Nat), .int .u64 (b : Nat), .int .u64 (c : Nat), .int .u64 (d : Nat), .int .i64 lo, .int .i64 hi] 26)).alloc (.cells #[.slice none 0 0] 45)) zo l lc z ao n cap t HS (hz.below hB0) hl (ht.below hB0) hn hnil
  clear HS hz ht
  unfold rgV at HE ⊢
  refine (callsIn_wide (n := 5)).1 ?_
  refine callsIn_of_wp_marks Tryd.func21 rfl trivial ?_ rfl
  simp only [Tryd.ntmps21, List.size_toArray, List.length_cons, List.length_nil, Nat.reduceAdd, Nat.reduceSub, Array.replicate_succ, Array.replicate_zero, List.push_toArray, List.append_toArray, List.nil_append, List.cons_append]
  gi_wp2_with (refine ⟨trivial, ?_⟩; gi_at_call 39; refine (callsIn_wide.2 HE).mono ?_; rintro e w1 ⟨pb, pr, pw, g, ao1, cap1, rfl, kb, kg, kr, kw, kt, hlow, hb⟩)
  have bO1 : Boxed w1 (w.heap.size + 1) 45 (.slice none 0 0) := (hb.block _ bO.lt).trans bO
  have hB1 : Below w.heap.size w w1 := hB0.trans (hb.mono (by simp; omega))
  have hsz2 : w.heap.size + 2 ≤ w1.heap.size := by have := hb.size; simpa using this
  obtain ⟨l1, l2, l3, l4, l5⟩ : w.heap.size + 2 ≤ pb ∧ w.heap.size + 2 ≤ g ∧ w.heap.size + 2 ≤ pr ∧ w.heap.size + 2 ≤ pw ∧ ∀ q, ao1 = some q → w.heap.size + 2 ≤ q.block := by simpa using hlow
  have hE1 : EnB (w.heap.size + 1) w1.heap.size pb pr pw g ao1 cap1 a' b' c' d' lo' hi' n (among z l) t w1 := by
    refine ⟨kb, kg, kr, kw, kt, ⟨kb.lt, kg.lt, Cl.lt kr, kw.lt, fun h0 q hq => ?_⟩, by omega, by omega, by omega, by omega, fun q hq => by have := l5 q hq; omega⟩
    obtain ⟨b', off, e, hlt, _⟩ := kt.at_ h0
    rw [hq] at e
    obtain rfl := Option.some.inj e
    exact hlt
  have hlen8 : (come (accF P lo' hi' (among z l) t) (n + 1)).length ≤ 1001 := by have := come_len (accF P lo' hi' (among z l) t) (n + 1); omega
  clear hb bO hB0 HE kb kg kr kw kt hlow
  refine wpIn_rangeFunc_ownG rfl (by decide) (gf := 56) (lb := #[.pointer (some ⟨pb, 0, none⟩), .pointer (some ⟨pr, 0, none⟩), .pointer (some ⟨pw, 0, none⟩)]) rfl trivial (enters_of Tryd.func56 (by kernel_rfl) rfl)
    (w0 := w1) (encs := fun x : Nat => #[Value.int .i64 (x : Nat)]) (Kp := Exc (w.heap.size + 1) w1.heap.size) (S := fun ys => ys = come (accF P lo' hi' (among z l) t) (n + 1)) (Sp := fun _ => True) (N := (come (accF P lo' hi' (among z l) t) (n + 1)).length)
    (fun l' J Jx W hW hJ _ hY h0 => it_in 4 l' pb pr pw g (w.heap.size + 1) w1.heap.size hP J Jx (by decide) hlo hhi hn hY W hJ (hE1.exc ⟨hW.size, fun j hj _ => hW.block j hj⟩) hW.size h0)
    Exc.trans (fun W l o o' hl h _ _ => Exc.put (Nat.le_refl _) W l o o' hl h) (Below.refl _ _) (fun _ => rfl)
    (fun pre W => (∃ v, Boxed W (w.heap.size + 1) 45 v ∧ W.ownsRow w1.heap.size 3 1 v pre.length (ints pre) ∧ True) ∧ Below (w.heap.size + 1) w1 W)
    (fun _ _ _ => False)
    (OwnFrom.and (Own.from (holdsRow_own w1.heap.size (w.heap.size + 1) 45 3 1 (fun pre => pre.length) ints (fun _ _ => True)) _) (ownFrom_below (by omega) (by omega)))
    (fun _ _ _ _ _ hs _ _ => hs)
    ⟨⟨_, bO1, World.ownsRow_nil _ _ _ _, trivial⟩, Below.refl _ _⟩
    (fun x => { tmps := #[.agg #[.int .u64 (a : Nat), .int .u64 (b : Nat), .int .u64 (c : Nat), .int .u64 (d : Nat), .int .i64 lo, .int .i64 hi], .slice zo l lc, .slice ao n cap, .pointer (some ⟨w.heap.size, 0, none⟩), undef, undef, .slice none 0 0, .pointer (some ⟨w.heap.size + 1, 0, none⟩),
      .func (.func 56) #[] #[.pointer (some ⟨pb, 0, none⟩), .pointer (some ⟨pr, 0, none⟩), .pointer (some ⟨pw, 0, none⟩)], .int .i64 (x : Nat),
      .agg #[.int .u64 (a : Nat), .int .u64 (b : Nat), .int .u64 (c : Nat), .int .u64 (d : Nat), .int .i64 lo, .int .i64 hi], .slice zo l lc, .slice ao n cap,
      .func (.func 56) #[] #[.pointer (some ⟨pb, 0, none⟩), .pointer (some ⟨pr, 0, none⟩), .pointer (some ⟨pw, 0, none⟩)], .func (.func 56) #[] #[.pointer (some ⟨pb, 0, none⟩), .pointer (some ⟨pr, 0, none⟩), .pointer (some ⟨pw, 0, none⟩)], .bool false,
      .func (.func 56) #[] #[.pointer (some ⟨pb, 0, none⟩), .pointer (some ⟨pr, 0, none⟩), .pointer (some ⟨pw, 0, none⟩)], .int .i64 (x : Nat), undef, undef, undef, undef, undef], defers := [] }) ?assign ?body ?done ?stop
  case assign =>
    intro l x W K hK
    gi_wp2
    exact hK
  case body =>
    rintro l pre x W ⟨⟨v, hv, hrow, _⟩, hB⟩ hlt
    have hc := hv.cell
    have hszW : w1.heap.size ≤ W.heap.size := hB.size
    gi_wp2_with (gi_at_builtin; refine wpListIn_append_own _ rfl _ _ 45 rfl w1.heap.size 3 i0 (.int .i64 0) 1 8 Tryd.underlying45 hi0 hz0 hz1 hz2 rfl (by decide) _ _ _ rfl (hrow.alloc _) ⟨W.heap.size, 0, none⟩ 1 1 [.int .i64 (x : Nat)] rfl rfl (cell_one_new _ _ _) (by simp [Value.oneCell']) (by unfold maxLen; omega) (by omega) (by simp; omega) ?_; intro v' w2 hown' hgrow _; obtain ⟨g', cap', rfl⟩ := ownsRow_succ hown'; obtain ⟨hv1, hv2, hr2, hk2, hb2, hb3⟩ := boxed_appended hv (by decide) hrow hszW (by omega) hown' hgrow; have hc1 := hv1.cell; have hf1 := hv1.frozen)
    exact ⟨hk2.from _, hb2, ⟨_, hv2, by simpa [ints] using hr2, trivial⟩, hB.trans hb3⟩
  case done =>
    rintro D ys W hD rfl ⟨⟨v, hv, hrow, _⟩, hB⟩ hK
    have hc := hv.cell
    gi_wp2
    refine ⟨by simp, .inl ⟨_, _, rfl, run_takeDeferred hK, ?_⟩⟩
    exact ⟨_, results_tmp rfl _ _ _, v, rfl, ownsRow_mono (ownsRow_putObj hrow _ hK rfl) (by omega), (hB1.trans (hB.mono (by omega))).trans (belowK_b (w := w) (Nat.le_refl _) W D _ _ (by omega) hK rfl rfl)⟩
  case stop =>
    rintro D c pre W _ _ h _
    exact h.elim
end Go.Proofs.YtehlmjjdegmnaaaDoor
