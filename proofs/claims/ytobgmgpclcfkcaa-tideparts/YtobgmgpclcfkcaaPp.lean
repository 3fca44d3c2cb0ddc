/- TideParts: what the law puts together (pure). -/
import Derived.Test.YtobgmgpclcfkcaaCc
namespace Go.Proofs.Ytobgmgpclcfkcaa
open Go.RowKit
/-- Whether a place is among the numbers of a list. -/
def amL (l : List Int) : Nat → Bool := among (fun i => l.getD i 0) l.length
theorem amL_iff (l : List Int) (j : Nat) : amL l j = true ↔ (j : Int) ∈ l := by
  unfold amL
  rw [among_iff]
  constructor
  · rintro ⟨k, hk, e⟩
    rw [← e, List.getD_eq_getElem?_getD, List.getElem?_eq_getElem hk]
    exact List.getElem_mem hk
  · intro h
    obtain ⟨k, hk, e⟩ := List.getElem_of_mem h
    refine ⟨k, hk, ?_⟩
    rw [List.getD_eq_getElem?_getD, List.getElem?_eq_getElem hk]
    exact e
/-- The triggers of the first part, and of the second. -/
def fsL (n N : Nat) (z : Nat → Int) : Nat → List Int
  | 0 => []
  | k + 1 => if 0 ≤ z k ∧ z k ≤ N ∧ z k ≤ n then fsL n N z k ++ [z k] else fsL n N z k
def sdL (n N : Nat) (z : Nat → Int) : Nat → List Int
  | 0 => []
  | k + 1 => if 0 ≤ z k ∧ z k ≤ N ∧ (n : Int) ≤ z k then sdL n N z k ++ [z k - n] else sdL n N z k
theorem fsL_yes {n N : Nat} {z : Nat → Int} {k : Nat} (h : 0 ≤ z k ∧ z k ≤ N ∧ z k ≤ n) : fsL n N z (k + 1) = fsL n N z k ++ [z k] := by
  show (if 0 ≤ z k ∧ z k ≤ (N : Int) ∧ z k ≤ (n : Int) then fsL n N z k ++ [z k] else fsL n N z k) = _
  rw [if_pos h]
theorem fsL_no {n N : Nat} {z : Nat → Int} {k : Nat} (h : ¬ (0 ≤ z k ∧ z k ≤ N ∧ z k ≤ n)) : fsL n N z (k + 1) = fsL n N z k := by
  show (if 0 ≤ z k ∧ z k ≤ (N : Int) ∧ z k ≤ (n : Int) then fsL n N z k ++ [z k] else fsL n N z k) = _
  rw [if_neg h]
theorem sdL_yes {n N : Nat} {z : Nat → Int} {k : Nat} (h : 0 ≤ z k ∧ z k ≤ N ∧ (n : Int) ≤ z k) : sdL n N z (k + 1) = sdL n N z k ++ [z k - n] := by
  show (if 0 ≤ z k ∧ z k ≤ (N : Int) ∧ (n : Int) ≤ z k then sdL n N z k ++ [z k - n] else sdL n N z k) = _
  rw [if_pos h]
theorem sdL_no {n N : Nat} {z : Nat → Int} {k : Nat} (h : ¬ (0 ≤ z k ∧ z k ≤ N ∧ (n : Int) ≤ z k)) : sdL n N z (k + 1) = sdL n N z k := by
  show (if 0 ≤ z k ∧ z k ≤ (N : Int) ∧ (n : Int) ≤ z k then sdL n N z k ++ [z k - n] else sdL n N z k) = _
  rw [if_neg h]
theorem fsL_mem {n N : Nat} {z : Nat → Int} (hN : n ≤ N) {j : Nat} (hj : j ≤ n) : ∀ k, (j : Int) ∈ fsL n N z k ↔ among z k j = true
  | 0 => by simp [fsL, among]
  | k + 1 => by
    have ih := fsL_mem hN hj (z := z) k
    simp only [among, Bool.or_eq_true, decide_eq_true_eq]
    unfold fsL
    split
    · rw [List.mem_append, ih]; simp
    · rename_i h
      rw [ih]
      constructor
      · exact .inl
      · rintro (h1 | h1)
        · exact h1
        · exact absurd ⟨by omega, by omega, by omega⟩ h
theorem sdL_mem {n N : Nat} {z : Nat → Int} {j : Nat} (hj : n + j ≤ N) : ∀ k, (j : Int) ∈ sdL n N z k ↔ among z k (n + j) = true
  | 0 => by simp [sdL, among]
  | k + 1 => by
    have ih := sdL_mem hj (z := z) k
    simp only [among, Bool.or_eq_true, decide_eq_true_eq]
    unfold sdL
    split
    · rename_i h
      rw [List.mem_append, ih]
      simp only [List.mem_singleton]
      constructor
      · rintro (h1 | h1)
        · exact .inl h1
        · exact .inr (by omega)
      · rintro (h1 | h1)
        · exact .inl h1
        · exact .inr (by omega)
    · rename_i h
      rw [ih]
      constructor
      · exact .inl
      · rintro (h1 | h1)
        · exact h1
        · exact absurd ⟨by omega, by omega, by omega⟩ h
theorem fsL_am {n N l : Nat} {z : Nat → Int} (hN : n ≤ N) {j : Nat} (hj : j ≤ n) : amL (fsL n N z l) j = among z l j := by
  rw [Bool.eq_iff_iff, amL_iff]; exact fsL_mem hN hj l
theorem sdL_am {n N l : Nat} {z : Nat → Int} {j : Nat} (hj : n + j ≤ N) : amL (sdL n N z l) j = among z l (n + j) := by
  rw [Bool.eq_iff_iff, amL_iff]; exact sdL_mem hj l
theorem fsL_len (n N : Nat) (z : Nat → Int) : ∀ k, (fsL n N z k).length ≤ k
  | 0 => Nat.le_refl _
  | k + 1 => by
    have := fsL_len n N z k
    unfold fsL
    split <;> simp <;> omega
theorem sdL_len (n N : Nat) (z : Nat → Int) : ∀ k, (sdL n N z k).length ≤ k
  | 0 => Nat.le_refl _
  | k + 1 => by
    have := sdL_len n N z k
    unfold sdL
    split <;> simp <;> omega
theorem ageF_congr {P : Nat → Bool} {lo : Nat} {T T' : Nat → Bool} {t t' : Nat → Nat} {g : Int} : ∀ j, (∀ i, i ≤ j → T i = T' i) → (∀ i, i < j → t i = t' i) → ageF P lo T t g j = ageF P lo T' t' g j
  | 0, hT, _ => by unfold ageF; rw [hT 0 (Nat.le_refl _)]
  | j + 1, hT, ht => by
    unfold ageF
    rw [hT (j + 1) (Nat.le_refl _), ht j (by omega), ageF_congr j (fun i hi => hT i (by omega)) (fun i hi => ht i (by omega))]
theorem trg_idem (g : Int) : trg (trg g) = trg g := by
  by_cases h : g = -1
  · subst h; rfl
  · have : trg g = g := by unfold trg; rw [if_neg h]
    rw [this, this]
theorem ageF_split {P : Nat → Bool} {lo : Nat} {T : Nat → Bool} {t : Nat → Nat} {g : Int} (n : Nat) : ∀ j, ageF P lo (fun i => T (n + i)) (fun i => t (n + i)) (ageF P lo T t g n) j = ageF P lo T t g (n + j)
  | 0 => by
    show (if T (n + 0) = true then trg (ageF P lo T t g n) else ageF P lo T t g n) = ageF P lo T t g (n + 0)
    rw [Nat.add_zero]
    by_cases h : T n = true
    · rw [if_pos h, ageF_pre, if_pos h, trg_idem]
    · rw [if_neg h]
  | j + 1 => by
    have ih := ageF_split (P := P) (lo := lo) (T := T) (t := t) (g := g) n j
    show (if T (n + (j + 1)) = true then trg (stp P lo (ageF P lo (fun i => T (n + i)) (fun i => t (n + i)) (ageF P lo T t g n) j) (t (n + j))) else stp P lo (ageF P lo (fun i => T (n + i)) (fun i => t (n + i)) (ageF P lo T t g n) j) (t (n + j))) = ageF P lo T t g (n + (j + 1))
    rw [ih]
    rfl
theorem plc_congr {F F' : Nat → Bool} : ∀ k, (∀ j, j < k → F j = F' j) → plc F k = plc F' k
  | 0, _ => rfl
  | k + 1, h => by
    have ih := plc_congr k fun j hj => h j (by omega)
    cases hk : F k with
    | true => rw [plc_yes hk, plc_yes (by rw [← h k (by omega)]; exact hk), ih]
    | false => rw [plc_no hk, plc_no (by rw [← h k (by omega)]; exact hk), ih]
/-- What the law's last loop puts together. -/
def cmb (A : List Int) (n : Nat) (B : List Int) : Nat → List Int
  | 0 => A
  | k + 1 => if 0 < B.getD k 0 ∨ amL (cmb A n B k) n = false then cmb A n B k ++ [B.getD k 0 + n] else cmb A n B k
theorem cmb_app (A : List Int) (n : Nat) (B C : List Int) : ∀ k, k ≤ B.length → cmb A n (B ++ C) k = cmb A n B k
  | 0, _ => rfl
  | k + 1, h => by
    have ih := cmb_app A n B C k (by omega)
    have e : (B ++ C).getD k 0 = B.getD k 0 := by
      rw [List.getD_eq_getElem?_getD, List.getD_eq_getElem?_getD, List.getElem?_append_left (by omega)]
    simp only [cmb, ih, e]
theorem plc_mem {F : Nat → Bool} {k j : Nat} (h : j < k) : (j : Int) ∈ plc F k ↔ F j = true := by
  unfold plc
  rw [List.mem_map]
  constructor
  · rintro ⟨a, ha, e⟩
    obtain rfl : a = j := by omega
    exact (List.mem_filter.1 ha).2
  · intro hf
    exact ⟨j, List.mem_filter.2 ⟨List.mem_range.2 h, hf⟩, rfl⟩
theorem cmb_all (F : Nat → Bool) (n : Nat) : ∀ m, cmb (plc F (n + 1)) n (plc (fun j => F (n + j)) (m + 1)) (plc (fun j => F (n + j)) (m + 1)).length = plc F (n + m + 1)
  | 0 => by
    cases h : F n with
    | false =>
      have e : plc (fun j => F (n + j)) (0 + 1) = [] := by rw [plc_no (by simpa using h)]; rfl
      rw [e]; rfl
    | true =>
      have e : plc (fun j => F (n + j)) (0 + 1) = [0] := by rw [plc_yes (by simpa using h)]; rfl
      have hm : amL (plc F (n + 1)) n = true := (amL_iff _ _).2 ((plc_mem (by omega)).2 h)
      rw [e]
      show (if 0 < ([0] : List Int).getD 0 0 ∨ amL (plc F (n + 1)) n = false then _ else plc F (n + 1)) = _
      rw [if_neg (by rw [hm]; simp)]
  | m + 1 => by
    have ih := cmb_all F n m
    cases h : F (n + (m + 1)) with
    | false =>
      rw [plc_no (F := fun j => F (n + j)) (k := m + 1) h, ih, show n + (m + 1) + 1 = (n + m + 1) + 1 by omega, plc_no (F := F) (k := n + m + 1) h]
    | true =>
      rw [plc_yes (F := fun j => F (n + j)) (k := m + 1) h, List.length_append]
      generalize hB : plc (fun j => F (n + j)) (m + 1) = B at *
      show cmb (plc F (n + 1)) n (B ++ [((m + 1 : Nat) : Int)]) (B.length + 1) = _
      have e : (B ++ [((m + 1 : Nat) : Int)]).getD B.length 0 = ((m + 1 : Nat) : Int) := by
        rw [List.getD_eq_getElem?_getD, List.getElem?_append_right (Nat.le_refl _), Nat.sub_self]; rfl
      simp only [cmb, cmb_app _ _ _ _ _ (Nat.le_refl _), e, ih]
      rw [if_pos (.inl (by omega)), show n + (m + 1) + 1 = (n + m + 1) + 1 by omega, plc_yes (F := F) (k := n + m + 1) h]
      congr 2
      omega
theorem cmb_len (A : List Int) (n : Nat) (B : List Int) : ∀ k, (cmb A n B k).length ≤ A.length + k
  | 0 => Nat.le_refl _
  | k + 1 => by
    have := cmb_len A n B k
    unfold cmb
    split <;> simp <;> omega
theorem plc_rng {F : Nat → Bool} {k : Nat} {x : Int} (h : x ∈ plc F k) : 0 ≤ x ∧ x < k := by
  unfold plc at h
  rw [List.mem_map] at h
  obtain ⟨a, ha, rfl⟩ := h
  have := List.mem_range.1 (List.mem_filter.1 ha).1
  omega
theorem getD_mem {l : List Int} {k : Nat} (h : k < l.length) : l.getD k 0 ∈ l := by
  rw [List.getD_eq_getElem?_getD, List.getElem?_eq_getElem h]
  exact List.getElem_mem h
/-- THE LAW, of the ages and the places. -/
theorem parts_pure {P : Nat → Bool} {lo : Nat} (z : Nat → Int) (l : Nat) (f f2 : Nat → Nat) (G : Int) (n m : Nat) (hg : -1 ≤ G) (hg2 : G ≤ lo) :
    ∃ X Y A B L, ageF P lo (amL (fsL n (n + m) z l)) f G n = X ∧ plc (fun j => ageF P lo (amL (fsL n (n + m) z l)) f G j == lo) (n + 1) = A ∧
      clS lo X = X ∧ ageF P lo (amL (sdL n (n + m) z l)) f2 X m = Y ∧ plc (fun j => ageF P lo (amL (sdL n (n + m) z l)) f2 X j == lo) (m + 1) = B ∧
      ageF P lo (among z l) (cat2 f n f2) G (n + m) = Y ∧ plc (fun j => ageF P lo (among z l) (cat2 f n f2) G j == lo) (n + m + 1) = L ∧
      cmb A n B B.length = L ∧ A.length ≤ n + 1 ∧ B.length ≤ m + 1 ∧ L.length ≤ n + m + 1 ∧ (∀ k, k < B.length → 0 ≤ B.getD k 0 ∧ B.getD k 0 < (m : Int) + 1) ∧ -1 ≤ X ∧ X ≤ lo := by
  have h1 : ∀ j, j ≤ n → ageF P lo (amL (fsL n (n + m) z l)) f G j = ageF P lo (among z l) (cat2 f n f2) G j := fun j hj =>
    ageF_congr j (fun i hi => fsL_am (by omega) (by omega)) (fun i hi => by unfold cat2; rw [if_pos (by omega)])
  obtain ⟨hx1, hx2⟩ := ageF_rng (P := P) (T := among z l) (t := cat2 f n f2) hg hg2 n
  have h2 : ∀ j, j ≤ m → ageF P lo (amL (sdL n (n + m) z l)) f2 (ageF P lo (among z l) (cat2 f n f2) G n) j = ageF P lo (among z l) (cat2 f n f2) G (n + j) := by
    intro j hj
    rw [← ageF_split n j]
    exact ageF_congr j (fun i hi => sdL_am (by omega)) (fun i hi => by unfold cat2; rw [if_neg (by omega), Nat.add_sub_cancel_left])
  refine ⟨_, _, _, _, _, rfl, rfl, ?_, rfl, rfl, ?_, rfl, ?_, plc_len _ _, plc_len _ _, plc_len _ _, fun k hk => ?_, ?_, ?_⟩
  · rw [h1 n (Nat.le_refl _)]; exact clS_self hx1 hx2
  · rw [h1 n (Nat.le_refl _), h2 m (Nat.le_refl _)]
  · rw [h1 n (Nat.le_refl _), plc_congr (F := fun j => ageF P lo (amL (fsL n (n + m) z l)) f G j == lo) (F' := fun j => ageF P lo (among z l) (cat2 f n f2) G j == lo) (n + 1) (fun j hj => by rw [h1 j (by omega)]),
      plc_congr (F := fun j => ageF P lo (amL (sdL n (n + m) z l)) f2 (ageF P lo (among z l) (cat2 f n f2) G n) j == lo) (F' := fun j => ageF P lo (among z l) (cat2 f n f2) G (n + j) == lo) (m + 1) (fun j hj => by rw [h2 j (by omega)])]
    exact cmb_all (fun j => ageF P lo (among z l) (cat2 f n f2) G j == lo) n m
  · have := plc_rng (getD_mem hk)
    omega
  · rw [h1 n (Nat.le_refl _)]; exact hx1
  · rw [h1 n (Nat.le_refl _)]; exact hx2
end Go.Proofs.Ytobgmgpclcfkcaa
