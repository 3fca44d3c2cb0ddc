/- Parts joined again: plain facts. -/
import Derived.Test.YtgedhjflminlbaaPq
namespace Go.Proofs.Ytgedhjflminlbaa
/-- Trees joined from the left on. -/
def fd (c : Int) : Tre → List Tre → Tre
  | a, [] => a
  | a, b :: r => fd c (.two c a b) r
theorem fd_val {α : Type} (c : Int) (f : Tre → α) (op : α → α → α) (hf : ∀ a b, f (.two c a b) = op (f a) (f b)) : ∀ (r : List Tre) (a : Tre), f (fd c a r) = (r.map f).foldl op (f a)
  | [], a => rfl
  | b :: r, a => by rw [fd, fd_val c f op hf r, List.map_cons, List.foldl_cons, hf]
theorem fold_assoc {α : Type} (op : α → α → α) (R : α → Prop) (hR : ∀ a b, R a → R b → R (op a b)) (ha : ∀ a b c, R a → R b → R c → op (op a b) c = op a (op b c)) : ∀ (r : List α) (a b : α), R a → R b → (∀ c ∈ r, R c) → r.foldl op (op a b) = op a (r.foldl op b)
  | [], a, b, _, _, _ => rfl
  | c :: r, a, b, h1, h2, h3 => by
    rw [List.foldl_cons, List.foldl_cons, ha a b c h1 h2 (h3 c (by simp))]
    exact fold_assoc op R hR ha r a (op b c) h1 (hR b c h2 (h3 c (by simp))) (fun d hd => h3 d (by simp [hd]))
theorem fold_R {α : Type} (op : α → α → α) (R : α → Prop) (hR : ∀ a b, R a → R b → R (op a b)) : ∀ (r : List α) (a : α), R a → (∀ c ∈ r, R c) → R (r.foldl op a)
  | [], a, h, _ => h
  | c :: r, a, h, h3 => by
    rw [List.foldl_cons]
    exact fold_R op R hR r _ (hR a c h (h3 c (by simp))) (fun d hd => h3 d (by simp [hd]))
theorem pt_ok (c : Int) : ∀ (t : Tre), t.ok = true → ∀ u ∈ pt c t, u.ok = true
  | .leaf n, h, u, hu => by simp [pt] at hu; rw [hu]; exact h
  | .rep x l m z, h, u, hu => by simp [pt] at hu; rw [hu]; exact h
  | .two k x y, h, u, hu => by
    unfold pt at hu
    split at hu
    · have h' := h
      simp only [Tre.ok, Bool.and_eq_true] at h'
      rcases List.mem_append.1 hu with h1 | h1
      · exact pt_ok c x h'.1.2 u h1
      · exact pt_ok c y h'.2 u h1
    · simp at hu; rw [hu]; exact h
theorem pt_fold {α : Type} (c : Int) (f : Tre → α) (op : α → α → α) (R : α → Prop) (hf : ∀ a b, f (.two c a b) = op (f a) (f b)) (hR : ∀ a b, R a → R b → R (op a b)) (ha : ∀ a b c, R a → R b → R c → op (op a b) c = op a (op b c)) (hr : ∀ t : Tre, t.ok = true → R (f t)) : ∀ (t : Tre), t.ok = true → ∀ h r, pt c t = h :: r → (r.map f).foldl op (f h) = f t
  | .leaf n, ho, h, r, e => by simp [pt] at e; obtain ⟨rfl, rfl⟩ := e; rfl
  | .rep x l m z, ho, h, r, e => by simp [pt] at e; obtain ⟨rfl, rfl⟩ := e; rfl
  | .two k x y, ho, h, r, e => by
    unfold pt at e
    split at e
    · rename_i hk
      subst hk
      have h' := ho
      simp only [Tre.ok, Bool.and_eq_true] at h'
      obtain ⟨hx, rx, ex⟩ : ∃ hx rx, pt k x = hx :: rx := by
        cases hp : pt k x with
        | nil => have := pt_pos k x; rw [hp] at this; simp at this
        | cons a b => exact ⟨a, b, rfl⟩
      obtain ⟨hy, ry, ey⟩ : ∃ hy ry, pt k y = hy :: ry := by
        cases hp : pt k y with
        | nil => have := pt_pos k y; rw [hp] at this; simp at this
        | cons a b => exact ⟨a, b, rfl⟩
      have ix := pt_fold k f op R hf hR ha hr x h'.1.2 hx rx ex
      have iy := pt_fold k f op R hf hR ha hr y h'.2 hy ry ey
      rw [ex, ey, List.cons_append] at e
      obtain ⟨rfl, rfl⟩ : hx = h ∧ rx ++ hy :: ry = r := by simpa using e
      have oy := pt_ok k y h'.2
      rw [ey] at oy
      rw [List.map_append, List.foldl_append, ix, List.map_cons, List.foldl_cons, fold_assoc op R hR ha _ _ _ (hr x h'.1.2) (hr hy (oy hy (by simp))) (fun d hd => ?_), iy, hf]
      obtain ⟨u, hu, rfl⟩ := List.mem_map.1 hd
      exact hr u (oy u (by simp [hu]))
    · simp at e; obtain ⟨rfl, rfl⟩ := e; rfl
theorem pl_assoc {a b c : Int} (ha : -1 ≤ a ∧ a ≤ 1073741824) (hb : -1 ≤ b ∧ b ≤ 1073741824) (hc : -1 ≤ c ∧ c ≤ 1073741824) : pl (pl a b) c = pl a (pl b c) := by
  unfold pl
  split <;> split <;> split <;> split <;> omega
theorem gr_assoc {a b c : Int} (ha : -1 ≤ a) (hb : -1 ≤ b) (hc : -1 ≤ c) : gr (gr a b) c = gr a (gr b c) := by
  unfold gr
  split <;> split <;> split <;> split <;> omega
theorem fd_same {c : Int} (hc : c = 3 ∨ c = 4) {t : Tre} (ho : t.ok = true) {h : Tre} {r : List Tre} (e : pt c t = h :: r) : (fd c h r).size = t.size ∧ wt (fd c h r) = wt t ∧ wl (fd c h r) = wl t ∧ wg (fd c h r) = wg t := by
  refine ⟨?_, ?_, ?_, ?_⟩
  · rw [fd_val c Tre.size (fun a b => a + b + 1) (fun a b => rfl)]
    exact pt_fold c Tre.size (fun a b => a + b + 1) (fun _ => True) (fun a b => rfl) (fun _ _ _ _ => trivial) (fun a b c _ _ _ => by omega) (fun _ _ => trivial) t ho h r e
  · rw [fd_val c wt pl (fun a b => rfl)]
    exact pt_fold c wt pl (fun a => 0 ≤ a ∧ a ≤ 1073741824) (fun a b => rfl) (fun a b ha hb => pl_nn ha hb) (fun a b c ha hb hc => pl_assoc ⟨by omega, ha.2⟩ ⟨by omega, hb.2⟩ ⟨by omega, hc.2⟩) (fun t h => wt_in t h) t ho h r e
  · rcases hc with rfl | rfl
    · rw [fd_val 3 wl pl (fun a b => rfl)]
      exact pt_fold 3 wl pl (fun a => 0 ≤ a ∧ a ≤ 1073741824) (fun a b => rfl) (fun a b ha hb => pl_nn ha hb) (fun a b c ha hb hc => pl_assoc ⟨by omega, ha.2⟩ ⟨by omega, hb.2⟩ ⟨by omega, hc.2⟩) (fun t h => wl_in t h) t ho h r e
    · rw [fd_val 4 wl min (fun a b => by simp [wl])]
      exact pt_fold 4 wl min (fun _ => True) (fun a b => by simp [wl]) (fun _ _ _ _ => trivial) (fun a b c _ _ _ => by omega) (fun _ _ => trivial) t ho h r e
  · rcases hc with rfl | rfl
    · rw [fd_val 3 wg pl (fun a b => rfl)]
      exact pt_fold 3 wg pl (fun a => -1 ≤ a ∧ a ≤ 1073741824) (fun a b => rfl) (fun a b ha hb => pl_in ha hb) (fun a b c ha hb hc => pl_assoc ha hb hc) (fun t h => wg_in t h) t ho h r e
    · rw [fd_val 4 wg gr (fun a b => by simp [wg])]
      exact pt_fold 4 wg gr (fun a => -1 ≤ a ∧ a ≤ 1073741824) (fun a b => by simp [wg]) (fun a b ha hb => gr_in ha hb) (fun a b c ha hb hc => gr_assoc ha.1 hb.1 hc.1) (fun t h => wg_in t h) t ho h r e
theorem fd_app (c : Int) : ∀ (r : List Tre) (a b : Tre), fd c a (r ++ [b]) = .two c (fd c a r) b
  | [], _, _ => rfl
  | x :: r, a, b => fd_app c r (.two c a x) b
theorem fd_ok {c : Int} (hc : c = 3 ∨ c = 4) : ∀ (r : List Tre) (a : Tre), a.ok = true → (∀ u ∈ r, u.ok = true) → (fd c a r).ok = true
  | [], a, h, _ => h
  | b :: r, a, h, hr => fd_ok hc r (.two c a b) (by rcases hc with rfl | rfl <;> simp [Tre.ok, h, hr b (by simp)]) (fun u hu => hr u (by simp [hu]))
theorem fd_ge (c : Int) : ∀ (r : List Tre) (a : Tre), a.size ≤ (fd c a r).size
  | [], a => Nat.le_refl _
  | b :: r, a => by have := fd_ge c r (.two c a b); simp only [fd]; simp only [Tre.size] at this; omega
theorem fd_take (c : Int) : ∀ (r : List Tre) (a : Tre) (j : Nat), (fd c a (r.take j)).size ≤ (fd c a r).size
  | [], a, j => by simp
  | b :: r, a, 0 => fd_ge c (b :: r) a
  | b :: r, a, j + 1 => fd_take c r (.two c a b) j
end Go.Proofs.Ytgedhjflminlbaa
