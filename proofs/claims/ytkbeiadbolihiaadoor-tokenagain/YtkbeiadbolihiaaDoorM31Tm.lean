/- The reference of token: times: the walk. -/
import Derived.Test.YtkbeiadbolihiaaDoorM30Nu
namespace Go.Proofs.YtkbeiadbolihiaaDoor
open Go.RowKit Go.Shelf
set_option maxRecDepth 20000 in
set_option maxHeartbeats 2000000 in
theorem tm_star_t (k : Int) (b a0 a1 a2 a3 : Nat) (nt : Bool) (t : Int) (w : World) : Calls Tryd.prog 29 #[tokI k b a0 a1 a2 a3 nt 0 (-1) true t] w (RetS w (repB 0 (-1) true)) := by
  have hB : Below w.heap.size w (w.alloc (.cells #[.int .i64 k, .int .u8 (b : Nat), .int .u64 (a0 : Nat), .int .u64 (a1 : Nat), .int .u64 (a2 : Nat), .int .u64 (a3 : Nat), .bool nt, .int .i64 0, .int .i64 (-1), .bool true, .int .i64 t] 26)) := (Below.refl _ _).alloc (Nat.le_refl _) _
  have HI := num_any 0 (by omega) (w.alloc (.cells #[.int .i64 k, .int .u8 (b : Nat), .int .u64 (a0 : Nat), .int .u64 (a1 : Nat), .int .u64 (a2 : Nat), .int .u64 (a3 : Nat), .bool nt, .int .i64 0, .int .i64 (-1), .bool true, .int .i64 t] 26))
  have hk := Cl.new w 26 [.int .i64 k, .int .u8 (b : Nat), .int .u64 (a0 : Nat), .int .u64 (a1 : Nat), .int .u64 (a2 : Nat), .int .u64 (a3 : Nat), .bool nt, .int .i64 0, .int .i64 (-1), .bool true, .int .i64 t]
  have hd := dec_len 0 (by omega)
  have hs1 : (⟨#[123]⟩ : ByteArray).size = 1 := rfl
  have hs2 : (⟨#[125]⟩ : ByteArray).size = 1 := rfl
  have hs3 : (⟨#[44, 125]⟩ : ByteArray).size = 2 := rfl
  have hs4 : (⟨#[44]⟩ : ByteArray).size = 1 := rfl
  have hs5 : (⟨#[63]⟩ : ByteArray).size = 1 := rfl
  have hsa := sz_app
  obtain ⟨S, hS⟩ : ∃ S : ByteArray, S = ⟨(Lib.decDigits 0).toArray⟩ := ⟨_, rfl⟩
  have hsz : S.size ≤ 4 := by rw [hS, size_str]; exact hd
  unfold RetS at HI
  rw [← hS] at HI
  have HV : Hid ((⟨#[42]⟩ : ByteArray) ++ ⟨#[63]⟩ = ⟨(repB 0 (-1) true).toArray⟩) := by
    show (⟨#[42]⟩ : ByteArray) ++ ⟨#[63]⟩ = ⟨(repB 0 (-1) true).toArray⟩
    unfold repB bndB
    apply ByteArray.ext
    simp [ByteArray.data_append]
  clear hS hd
  unfold tokI
  go_enter Tryd.func29, Tryd.ntmps29
  go_wp2_with (go_at_call 45; refine HI.mono ?_; rintro e w1 ⟨rfl, hb⟩; obtain ⟨x0, x1, x2, x3, x4, x5, x6, x7, x8, x9, x10⟩ := (hk.below hb).eleven.1)
  go_ret
  exact ⟨by rw [← HV.out]; rfl, hB.trans (hb.mono hB.size)⟩
set_option maxRecDepth 20000 in
set_option maxHeartbeats 2000000 in
theorem tm_plus_t (k : Int) (b a0 a1 a2 a3 : Nat) (nt : Bool) (t : Int) (w : World) : Calls Tryd.prog 29 #[tokI k b a0 a1 a2 a3 nt 1 (-1) true t] w (RetS w (repB 1 (-1) true)) := by
  have hB : Below w.heap.size w (w.alloc (.cells #[.int .i64 k, .int .u8 (b : Nat), .int .u64 (a0 : Nat), .int .u64 (a1 : Nat), .int .u64 (a2 : Nat), .int .u64 (a3 : Nat), .bool nt, .int .i64 1, .int .i64 (-1), .bool true, .int .i64 t] 26)) := (Below.refl _ _).alloc (Nat.le_refl _) _
  have HI := num_any 1 (by omega) (w.alloc (.cells #[.int .i64 k, .int .u8 (b : Nat), .int .u64 (a0 : Nat), .int .u64 (a1 : Nat), .int .u64 (a2 : Nat), .int .u64 (a3 : Nat), .bool nt, .int .i64 1, .int .i64 (-1), .bool true, .int .i64 t] 26))
  have hk := Cl.new w 26 [.int .i64 k, .int .u8 (b : Nat), .int .u64 (a0 : Nat), .int .u64 (a1 : Nat), .int .u64 (a2 : Nat), .int .u64 (a3 : Nat), .bool nt, .int .i64 1, .int .i64 (-1), .bool true, .int .i64 t]
  have hd := dec_len 1 (by omega)
  have hs1 : (⟨#[123]⟩ : ByteArray).size = 1 := rfl
  have hs2 : (⟨#[125]⟩ : ByteArray).size = 1 := rfl
  have hs3 : (⟨#[44, 125]⟩ : ByteArray).size = 2 := rfl
  have hs4 : (⟨#[44]⟩ : ByteArray).size = 1 := rfl
  have hs5 : (⟨#[63]⟩ : ByteArray).size = 1 := rfl
  have hsa := sz_app
  obtain ⟨S, hS⟩ : ∃ S : ByteArray, S = ⟨(Lib.decDigits 1).toArray⟩ := ⟨_, rfl⟩
  have hsz : S.size ≤ 4 := by rw [hS, size_str]; exact hd
  unfold RetS at HI
  rw [← hS] at HI
  have HV : Hid ((⟨#[43]⟩ : ByteArray) ++ ⟨#[63]⟩ = ⟨(repB 1 (-1) true).toArray⟩) := by
    show (⟨#[43]⟩ : ByteArray) ++ ⟨#[63]⟩ = ⟨(repB 1 (-1) true).toArray⟩
    unfold repB bndB
    apply ByteArray.ext
    simp [ByteArray.data_append]
  clear hS hd
  unfold tokI
  go_enter Tryd.func29, Tryd.ntmps29
  go_wp2_with (go_at_call 45; refine HI.mono ?_; rintro e w1 ⟨rfl, hb⟩; obtain ⟨x0, x1, x2, x3, x4, x5, x6, x7, x8, x9, x10⟩ := (hk.below hb).eleven.1)
  go_ret
  exact ⟨by rw [← HV.out]; rfl, hB.trans (hb.mono hB.size)⟩
set_option maxRecDepth 20000 in
set_option maxHeartbeats 2000000 in
theorem tm_may_t (k : Int) (b a0 a1 a2 a3 : Nat) (nt : Bool) (t : Int) (w : World) : Calls Tryd.prog 29 #[tokI k b a0 a1 a2 a3 nt 0 1 true t] w (RetS w (repB 0 1 true)) := by
  have hB : Below w.heap.size w (w.alloc (.cells #[.int .i64 k, .int .u8 (b : Nat), .int .u64 (a0 : Nat), .int .u64 (a1 : Nat), .int .u64 (a2 : Nat), .int .u64 (a3 : Nat), .bool nt, .int .i64 0, .int .i64 1, .bool true, .int .i64 t] 26)) := (Below.refl _ _).alloc (Nat.le_refl _) _
  have HI := num_any 0 (by omega) (w.alloc (.cells #[.int .i64 k, .int .u8 (b : Nat), .int .u64 (a0 : Nat), .int .u64 (a1 : Nat), .int .u64 (a2 : Nat), .int .u64 (a3 : Nat), .bool nt, .int .i64 0, .int .i64 1, .bool true, .int .i64 t] 26))
  have hk := Cl.new w 26 [.int .i64 k, .int .u8 (b : Nat), .int .u64 (a0 : Nat), .int .u64 (a1 : Nat), .int .u64 (a2 : Nat), .int .u64 (a3 : Nat), .bool nt, .int .i64 0, .int .i64 1, .bool true, .int .i64 t]
  have hd := dec_len 0 (by omega)
  have hs1 : (⟨#[123]⟩ : ByteArray).size = 1 := rfl
  have hs2 : (⟨#[125]⟩ : ByteArray).size = 1 := rfl
  have hs3 : (⟨#[44, 125]⟩ : ByteArray).size = 2 := rfl
  have hs4 : (⟨#[44]⟩ : ByteArray).size = 1 := rfl
  have hs5 : (⟨#[63]⟩ : ByteArray).size = 1 := rfl
  have hsa := sz_app
  obtain ⟨S, hS⟩ : ∃ S : ByteArray, S = ⟨(Lib.decDigits 0).toArray⟩ := ⟨_, rfl⟩
  have hsz : S.size ≤ 4 := by rw [hS, size_str]; exact hd
  unfold RetS at HI
  rw [← hS] at HI
  have HV : Hid ((⟨#[63]⟩ : ByteArray) ++ ⟨#[63]⟩ = ⟨(repB 0 1 true).toArray⟩) := by
    show (⟨#[63]⟩ : ByteArray) ++ ⟨#[63]⟩ = ⟨(repB 0 1 true).toArray⟩
    unfold repB bndB
    apply ByteArray.ext
    simp [ByteArray.data_append]
  clear hS hd
  unfold tokI
  go_enter Tryd.func29, Tryd.ntmps29
  go_wp2_with (go_at_call 45; refine HI.mono ?_; rintro e w1 ⟨rfl, hb⟩; obtain ⟨x0, x1, x2, x3, x4, x5, x6, x7, x8, x9, x10⟩ := (hk.below hb).eleven.1)
  go_ret
  exact ⟨by rw [← HV.out]; rfl, hB.trans (hb.mono hB.size)⟩
set_option maxRecDepth 20000 in
set_option maxHeartbeats 2000000 in
theorem tm_from_t (k : Int) (b a0 a1 a2 a3 : Nat) (nt : Bool) (l : Nat) (hl : l ≤ 1000) (h2 : 2 ≤ l) (t : Int) (w : World) : Calls Tryd.prog 29 #[tokI k b a0 a1 a2 a3 nt ((l : Nat) : Int) (-1) true t] w (RetS w (repB l (-1) true)) := by
  have hB : Below w.heap.size w (w.alloc (.cells #[.int .i64 k, .int .u8 (b : Nat), .int .u64 (a0 : Nat), .int .u64 (a1 : Nat), .int .u64 (a2 : Nat), .int .u64 (a3 : Nat), .bool nt, .int .i64 ((l : Nat) : Int), .int .i64 (-1), .bool true, .int .i64 t] 26)) := (Below.refl _ _).alloc (Nat.le_refl _) _
  have HI := num_any l (by omega) (w.alloc (.cells #[.int .i64 k, .int .u8 (b : Nat), .int .u64 (a0 : Nat), .int .u64 (a1 : Nat), .int .u64 (a2 : Nat), .int .u64 (a3 : Nat), .bool nt, .int .i64 ((l : Nat) : Int), .int .i64 (-1), .bool true, .int .i64 t] 26))
  have hk := Cl.new w 26 [.int .i64 k, .int .u8 (b : Nat), .int .u64 (a0 : Nat), .int .u64 (a1 : Nat), .int .u64 (a2 : Nat), .int .u64 (a3 : Nat), .bool nt, .int .i64 ((l : Nat) : Int), .int .i64 (-1), .bool true, .int .i64 t]
  have hd := dec_len l (by omega)
  have hs1 : (⟨#[123]⟩ : ByteArray).size = 1 := rfl
  have hs2 : (⟨#[125]⟩ : ByteArray).size = 1 := rfl
  have hs3 : (⟨#[44, 125]⟩ : ByteArray).size = 2 := rfl
  have hs4 : (⟨#[44]⟩ : ByteArray).size = 1 := rfl
  have hs5 : (⟨#[63]⟩ : ByteArray).size = 1 := rfl
  have hsa := sz_app
  obtain ⟨S, hS⟩ : ∃ S : ByteArray, S = ⟨(Lib.decDigits l).toArray⟩ := ⟨_, rfl⟩
  have hsz : S.size ≤ 4 := by rw [hS, size_str]; exact hd
  unfold RetS at HI
  rw [← hS] at HI
  have f0 : ((l : Int) == 0) = false := by simp; omega
  have f1 : ((l : Int) == 1) = false := by simp; omega
  have g0 : ¬ l = 0 := by omega
  have g1 : ¬ l = 1 := by omega
  have g3 : ¬ (-1 : Int) = (l : Int) := by omega
  have HV : Hid ((⟨#[123]⟩ : ByteArray) ++ S ++ ⟨#[44, 125]⟩ ++ ⟨#[63]⟩ = ⟨(repB l (-1) true).toArray⟩) := by
    show (⟨#[123]⟩ : ByteArray) ++ S ++ ⟨#[44, 125]⟩ ++ ⟨#[63]⟩ = ⟨(repB l (-1) true).toArray⟩
    unfold repB bndB
    apply ByteArray.ext
    simp [ByteArray.data_append, hS, g0, g1, g3]
  clear hS hd
  unfold tokI
  go_enter Tryd.func29, Tryd.ntmps29
  go_wp2_with (go_at_call 45; refine HI.mono ?_; rintro e w1 ⟨rfl, hb⟩; obtain ⟨x0, x1, x2, x3, x4, x5, x6, x7, x8, x9, x10⟩ := (hk.below hb).eleven.1)
  go_ret
  exact ⟨by rw [← HV.out]; rfl, hB.trans (hb.mono hB.size)⟩
set_option maxRecDepth 20000 in
set_option maxHeartbeats 2000000 in
theorem tm_just0_t (k : Int) (b a0 a1 a2 a3 : Nat) (nt : Bool) (t : Int) (w : World) : Calls Tryd.prog 29 #[tokI k b a0 a1 a2 a3 nt 0 0 true t] w (RetS w (repB 0 0 true)) := by
  have hB : Below w.heap.size w (w.alloc (.cells #[.int .i64 k, .int .u8 (b : Nat), .int .u64 (a0 : Nat), .int .u64 (a1 : Nat), .int .u64 (a2 : Nat), .int .u64 (a3 : Nat), .bool nt, .int .i64 0, .int .i64 0, .bool true, .int .i64 t] 26)) := (Below.refl _ _).alloc (Nat.le_refl _) _
  have HI := num_any 0 (by omega) (w.alloc (.cells #[.int .i64 k, .int .u8 (b : Nat), .int .u64 (a0 : Nat), .int .u64 (a1 : Nat), .int .u64 (a2 : Nat), .int .u64 (a3 : Nat), .bool nt, .int .i64 0, .int .i64 0, .bool true, .int .i64 t] 26))
  have hk := Cl.new w 26 [.int .i64 k, .int .u8 (b : Nat), .int .u64 (a0 : Nat), .int .u64 (a1 : Nat), .int .u64 (a2 : Nat), .int .u64 (a3 : Nat), .bool nt, .int .i64 0, .int .i64 0, .bool true, .int .i64 t]
  have hd := dec_len 0 (by omega)
  have hs1 : (⟨#[123]⟩ : ByteArray).size = 1 := rfl
  have hs2 : (⟨#[125]⟩ : ByteArray).size = 1 := rfl
  have hs3 : (⟨#[44, 125]⟩ : ByteArray).size = 2 := rfl
  have hs4 : (⟨#[44]⟩ : ByteArray).size = 1 := rfl
  have hs5 : (⟨#[63]⟩ : ByteArray).size = 1 := rfl
  have hsa := sz_app
  obtain ⟨S, hS⟩ : ∃ S : ByteArray, S = ⟨(Lib.decDigits 0).toArray⟩ := ⟨_, rfl⟩
  have hsz : S.size ≤ 4 := by rw [hS, size_str]; exact hd
  unfold RetS at HI
  rw [← hS] at HI
  have HV : Hid ((⟨#[123]⟩ : ByteArray) ++ S ++ ⟨#[125]⟩ ++ ⟨#[63]⟩ = ⟨(repB 0 0 true).toArray⟩) := by
    show (⟨#[123]⟩ : ByteArray) ++ S ++ ⟨#[125]⟩ ++ ⟨#[63]⟩ = ⟨(repB 0 0 true).toArray⟩
    unfold repB bndB
    apply ByteArray.ext
    simp [ByteArray.data_append, hS]
  clear hS hd
  unfold tokI
  go_enter Tryd.func29, Tryd.ntmps29
  go_wp2_with (go_at_call 45; refine HI.mono ?_; rintro e w1 ⟨rfl, hb⟩; obtain ⟨x0, x1, x2, x3, x4, x5, x6, x7, x8, x9, x10⟩ := (hk.below hb).eleven.1)
  go_ret
  exact ⟨by rw [← HV.out]; rfl, hB.trans (hb.mono hB.size)⟩
set_option maxRecDepth 20000 in
set_option maxHeartbeats 2000000 in
theorem tm_just1_t (k : Int) (b a0 a1 a2 a3 : Nat) (nt : Bool) (t : Int) (w : World) : Calls Tryd.prog 29 #[tokI k b a0 a1 a2 a3 nt 1 1 true t] w (RetS w (repB 1 1 true)) := by
  have hB : Below w.heap.size w (w.alloc (.cells #[.int .i64 k, .int .u8 (b : Nat), .int .u64 (a0 : Nat), .int .u64 (a1 : Nat), .int .u64 (a2 : Nat), .int .u64 (a3 : Nat), .bool nt, .int .i64 1, .int .i64 1, .bool true, .int .i64 t] 26)) := (Below.refl _ _).alloc (Nat.le_refl _) _
  have HI := num_any 1 (by omega) (w.alloc (.cells #[.int .i64 k, .int .u8 (b : Nat), .int .u64 (a0 : Nat), .int .u64 (a1 : Nat), .int .u64 (a2 : Nat), .int .u64 (a3 : Nat), .bool nt, .int .i64 1, .int .i64 1, .bool true, .int .i64 t] 26))
  have hk := Cl.new w 26 [.int .i64 k, .int .u8 (b : Nat), .int .u64 (a0 : Nat), .int .u64 (a1 : Nat), .int .u64 (a2 : Nat), .int .u64 (a3 : Nat), .bool nt, .int .i64 1, .int .i64 1, .bool true, .int .i64 t]
  have hd := dec_len 1 (by omega)
  have hs1 : (⟨#[123]⟩ : ByteArray).size = 1 := rfl
  have hs2 : (⟨#[125]⟩ : ByteArray).size = 1 := rfl
  have hs3 : (⟨#[44, 125]⟩ : ByteArray).size = 2 := rfl
  have hs4 : (⟨#[44]⟩ : ByteArray).size = 1 := rfl
  have hs5 : (⟨#[63]⟩ : ByteArray).size = 1 := rfl
  have hsa := sz_app
  obtain ⟨S, hS⟩ : ∃ S : ByteArray, S = ⟨(Lib.decDigits 1).toArray⟩ := ⟨_, rfl⟩
  have hsz : S.size ≤ 4 := by rw [hS, size_str]; exact hd
  unfold RetS at HI
  rw [← hS] at HI
  have HV : Hid ((⟨#[123]⟩ : ByteArray) ++ S ++ ⟨#[125]⟩ ++ ⟨#[63]⟩ = ⟨(repB 1 1 true).toArray⟩) := by
    show (⟨#[123]⟩ : ByteArray) ++ S ++ ⟨#[125]⟩ ++ ⟨#[63]⟩ = ⟨(repB 1 1 true).toArray⟩
    unfold repB bndB
    apply ByteArray.ext
    simp [ByteArray.data_append, hS]
  clear hS hd
  unfold tokI
  go_enter Tryd.func29, Tryd.ntmps29
  go_wp2_with (go_at_call 45; refine HI.mono ?_; rintro e w1 ⟨rfl, hb⟩; obtain ⟨x0, x1, x2, x3, x4, x5, x6, x7, x8, x9, x10⟩ := (hk.below hb).eleven.1)
  go_ret
  exact ⟨by rw [← HV.out]; rfl, hB.trans (hb.mono hB.size)⟩
set_option maxRecDepth 20000 in
set_option maxHeartbeats 2000000 in
theorem tm_justm_t (k : Int) (b a0 a1 a2 a3 : Nat) (nt : Bool) (l : Nat) (hl : l ≤ 1000) (h2 : 2 ≤ l) (t : Int) (w : World) : Calls Tryd.prog 29 #[tokI k b a0 a1 a2 a3 nt ((l : Nat) : Int) ((l : Nat) : Int) true t] w (RetS w (repB l ((l : Nat) : Int) true)) := by
  have hB : Below w.heap.size w (w.alloc (.cells #[.int .i64 k, .int .u8 (b : Nat), .int .u64 (a0 : Nat), .int .u64 (a1 : Nat), .int .u64 (a2 : Nat), .int .u64 (a3 : Nat), .bool nt, .int .i64 ((l : Nat) : Int), .int .i64 ((l : Nat) : Int), .bool true, .int .i64 t] 26)) := (Below.refl _ _).alloc (Nat.le_refl _) _
  have HI := num_any l (by omega) (w.alloc (.cells #[.int .i64 k, .int .u8 (b : Nat), .int .u64 (a0 : Nat), .int .u64 (a1 : Nat), .int .u64 (a2 : Nat), .int .u64 (a3 : Nat), .bool nt, .int .i64 ((l : Nat) : Int), .int .i64 ((l : Nat) : Int), .bool true, .int .i64 t] 26))
  have hk := Cl.new w 26 [.int .i64 k, .int .u8 (b : Nat), .int .u64 (a0 : Nat), .int .u64 (a1 : Nat), .int .u64 (a2 : Nat), .int .u64 (a3 : Nat), .bool nt, .int .i64 ((l : Nat) : Int), .int .i64 ((l : Nat) : Int), .bool true, .int .i64 t]
  have hd := dec_len l (by omega)
  have hs1 : (⟨#[123]⟩ : ByteArray).size = 1 := rfl
  have hs2 : (⟨#[125]⟩ : ByteArray).size = 1 := rfl
  have hs3 : (⟨#[44, 125]⟩ : ByteArray).size = 2 := rfl
  have hs4 : (⟨#[44]⟩ : ByteArray).size = 1 := rfl
  have hs5 : (⟨#[63]⟩ : ByteArray).size = 1 := rfl
  have hsa := sz_app
  obtain ⟨S, hS⟩ : ∃ S : ByteArray, S = ⟨(Lib.decDigits l).toArray⟩ := ⟨_, rfl⟩
  have hsz : S.size ≤ 4 := by rw [hS, size_str]; exact hd
  unfold RetS at HI
  rw [← hS] at HI
  have f0 : ((l : Int) == 0) = false := by simp; omega
  have f1 : ((l : Int) == 1) = false := by simp; omega
  have g0 : ¬ l = 0 := by omega
  have g1 : ¬ l = 1 := by omega
  have f2 : ((l : Int) == -1) = false := by simp
  have HV : Hid ((⟨#[123]⟩ : ByteArray) ++ S ++ ⟨#[125]⟩ ++ ⟨#[63]⟩ = ⟨(repB l ((l : Nat) : Int) true).toArray⟩) := by
    show (⟨#[123]⟩ : ByteArray) ++ S ++ ⟨#[125]⟩ ++ ⟨#[63]⟩ = ⟨(repB l ((l : Nat) : Int) true).toArray⟩
    unfold repB bndB
    apply ByteArray.ext
    simp [ByteArray.data_append, hS, g0, g1]
  clear hS hd
  unfold tokI
  go_enter Tryd.func29, Tryd.ntmps29
  go_wp2_with (go_at_call 45; refine HI.mono ?_; rintro e w1 ⟨rfl, hb⟩; obtain ⟨x0, x1, x2, x3, x4, x5, x6, x7, x8, x9, x10⟩ := (hk.below hb).eleven.1)
  go_ret
  exact ⟨by rw [← HV.out]; rfl, hB.trans (hb.mono hB.size)⟩
set_option maxRecDepth 20000 in
set_option maxHeartbeats 2000000 in
theorem tm_both0_t (k : Int) (b a0 a1 a2 a3 : Nat) (nt : Bool) (n : Nat) (hn : n ≤ 1000) (h2 : 2 ≤ n) (t : Int) (w : World) : Calls Tryd.prog 29 #[tokI k b a0 a1 a2 a3 nt 0 ((n : Nat) : Int) true t] w (RetS w (repB 0 ((n : Nat) : Int) true)) := by
  have hB : Below w.heap.size w (w.alloc (.cells #[.int .i64 k, .int .u8 (b : Nat), .int .u64 (a0 : Nat), .int .u64 (a1 : Nat), .int .u64 (a2 : Nat), .int .u64 (a3 : Nat), .bool nt, .int .i64 0, .int .i64 ((n : Nat) : Int), .bool true, .int .i64 t] 26)) := (Below.refl _ _).alloc (Nat.le_refl _) _
  have HI := num_any 0 (by omega) (w.alloc (.cells #[.int .i64 k, .int .u8 (b : Nat), .int .u64 (a0 : Nat), .int .u64 (a1 : Nat), .int .u64 (a2 : Nat), .int .u64 (a3 : Nat), .bool nt, .int .i64 0, .int .i64 ((n : Nat) : Int), .bool true, .int .i64 t] 26))
  have hk := Cl.new w 26 [.int .i64 k, .int .u8 (b : Nat), .int .u64 (a0 : Nat), .int .u64 (a1 : Nat), .int .u64 (a2 : Nat), .int .u64 (a3 : Nat), .bool nt, .int .i64 0, .int .i64 ((n : Nat) : Int), .bool true, .int .i64 t]
  have hd := dec_len 0 (by omega)
  have hs1 : (⟨#[123]⟩ : ByteArray).size = 1 := rfl
  have hs2 : (⟨#[125]⟩ : ByteArray).size = 1 := rfl
  have hs3 : (⟨#[44, 125]⟩ : ByteArray).size = 2 := rfl
  have hs4 : (⟨#[44]⟩ : ByteArray).size = 1 := rfl
  have hs5 : (⟨#[63]⟩ : ByteArray).size = 1 := rfl
  have hsa := sz_app
  obtain ⟨S, hS⟩ : ∃ S : ByteArray, S = ⟨(Lib.decDigits 0).toArray⟩ := ⟨_, rfl⟩
  have hsz : S.size ≤ 4 := by rw [hS, size_str]; exact hd
  unfold RetS at HI
  rw [← hS] at HI
  have f2 : ((n : Int) == 1) = false := by simp; omega
  have f3 : ((n : Int) == 0) = false := by simp; omega
  have g1 : ¬ (n : Int) = 1 := by omega
  have g2 : ¬ n = 0 := by omega
  have f4 : ((n : Int) == -1) = false := by simp
  have hd2 := dec_len n hn
  obtain ⟨U, hU⟩ : ∃ U : ByteArray, U = ⟨(Lib.decDigits n).toArray⟩ := ⟨_, rfl⟩
  have hsu : U.size ≤ 4 := by rw [hU, size_str]; exact hd2
  have HJ : Hid (∀ W, Calls Tryd.prog 45 #[.int .i64 (n : Nat)] W fun e w' => e = .returned (.string U) ∧ Below W.heap.size W w') := fun W => by
    have := num_any n hn W
    unfold RetS at this
    rw [← hU] at this
    exact this
  have m0 : Hid True := trivial
  have HV : Hid ((⟨#[123]⟩ : ByteArray) ++ S ++ (⟨#[44]⟩ ++ U ++ ⟨#[125]⟩) ++ ⟨#[63]⟩ = ⟨(repB 0 ((n : Nat) : Int) true).toArray⟩) := by
    show (⟨#[123]⟩ : ByteArray) ++ S ++ (⟨#[44]⟩ ++ U ++ ⟨#[125]⟩) ++ ⟨#[63]⟩ = ⟨(repB 0 ((n : Nat) : Int) true).toArray⟩
    unfold repB bndB
    apply ByteArray.ext
    simp [ByteArray.data_append, hS, hU, g1, g2]
  clear hS hU hd2 hd
  unfold tokI
  go_enter Tryd.func29, Tryd.ntmps29
  go_wp2_with (go_at_call 45; first | (clear m0; refine HI.mono ?_; clear HI; rintro e w1 ⟨rfl, hb⟩; obtain ⟨x0, x1, x2, x3, x4, x5, x6, x7, x8, x9, x10⟩ := (hk.below hb).eleven.1) | (refine (HJ.out _).mono ?_; rintro e w2 ⟨rfl, hb2⟩; clear x0 x1 x2 x3 x4 x5 x6 x7 x8 x9 x10; obtain ⟨x0, x1, x2, x3, x4, x5, x6, x7, x8, x9, x10⟩ := ((hk.below hb).below hb2).eleven.1))
  go_ret
  exact ⟨by rw [← HV.out]; rfl, hB.trans ((hb.trans (hb2.mono hb.size)).mono hB.size)⟩
set_option maxRecDepth 20000 in
set_option maxHeartbeats 2000000 in
theorem tm_both1_t (k : Int) (b a0 a1 a2 a3 : Nat) (nt : Bool) (n : Nat) (hn : n ≤ 1000) (h2 : 2 ≤ n) (t : Int) (w : World) : Calls Tryd.prog 29 #[tokI k b a0 a1 a2 a3 nt 1 ((n : Nat) : Int) true t] w (RetS w (repB 1 ((n : Nat) : Int) true)) := by
  have hB : Below w.heap.size w (w.alloc (.cells #[.int .i64 k, .int .u8 (b : Nat), .int .u64 (a0 : Nat), .int .u64 (a1 : Nat), .int .u64 (a2 : Nat), .int .u64 (a3 : Nat), .bool nt, .int .i64 1, .int .i64 ((n : Nat) : Int), .bool true, .int .i64 t] 26)) := (Below.refl _ _).alloc (Nat.le_refl _) _
  have HI := num_any 1 (by omega) (w.alloc (.cells #[.int .i64 k, .int .u8 (b : Nat), .int .u64 (a0 : Nat), .int .u64 (a1 : Nat), .int .u64 (a2 : Nat), .int .u64 (a3 : Nat), .bool nt, .int .i64 1, .int .i64 ((n : Nat) : Int), .bool true, .int .i64 t] 26))
  have hk := Cl.new w 26 [.int .i64 k, .int .u8 (b : Nat), .int .u64 (a0 : Nat), .int .u64 (a1 : Nat), .int .u64 (a2 : Nat), .int .u64 (a3 : Nat), .bool nt, .int .i64 1, .int .i64 ((n : Nat) : Int), .bool true, .int .i64 t]
  have hd := dec_len 1 (by omega)
  have hs1 : (⟨#[123]⟩ : ByteArray).size = 1 := rfl
  have hs2 : (⟨#[125]⟩ : ByteArray).size = 1 := rfl
  have hs3 : (⟨#[44, 125]⟩ : ByteArray).size = 2 := rfl
  have hs4 : (⟨#[44]⟩ : ByteArray).size = 1 := rfl
  have hs5 : (⟨#[63]⟩ : ByteArray).size = 1 := rfl
  have hsa := sz_app
  obtain ⟨S, hS⟩ : ∃ S : ByteArray, S = ⟨(Lib.decDigits 1).toArray⟩ := ⟨_, rfl⟩
  have hsz : S.size ≤ 4 := by rw [hS, size_str]; exact hd
  unfold RetS at HI
  rw [← hS] at HI
  have f2 : ((n : Int) == 1) = false := by simp; omega
  have g1 : ¬ (n : Int) = 1 := by omega
  have f4 : ((n : Int) == -1) = false := by simp
  have hd2 := dec_len n hn
  obtain ⟨U, hU⟩ : ∃ U : ByteArray, U = ⟨(Lib.decDigits n).toArray⟩ := ⟨_, rfl⟩
  have hsu : U.size ≤ 4 := by rw [hU, size_str]; exact hd2
  have HJ : Hid (∀ W, Calls Tryd.prog 45 #[.int .i64 (n : Nat)] W fun e w' => e = .returned (.string U) ∧ Below W.heap.size W w') := fun W => by
    have := num_any n hn W
    unfold RetS at this
    rw [← hU] at this
    exact this
  have m0 : Hid True := trivial
  have HV : Hid ((⟨#[123]⟩ : ByteArray) ++ S ++ (⟨#[44]⟩ ++ U ++ ⟨#[125]⟩) ++ ⟨#[63]⟩ = ⟨(repB 1 ((n : Nat) : Int) true).toArray⟩) := by
    show (⟨#[123]⟩ : ByteArray) ++ S ++ (⟨#[44]⟩ ++ U ++ ⟨#[125]⟩) ++ ⟨#[63]⟩ = ⟨(repB 1 ((n : Nat) : Int) true).toArray⟩
    unfold repB bndB
    apply ByteArray.ext
    simp [ByteArray.data_append, hS, hU, g1]
  clear hS hU hd2 hd
  unfold tokI
  go_enter Tryd.func29, Tryd.ntmps29
  go_wp2_with (go_at_call 45; first | (clear m0; refine HI.mono ?_; clear HI; rintro e w1 ⟨rfl, hb⟩; obtain ⟨x0, x1, x2, x3, x4, x5, x6, x7, x8, x9, x10⟩ := (hk.below hb).eleven.1) | (refine (HJ.out _).mono ?_; rintro e w2 ⟨rfl, hb2⟩; clear x0 x1 x2 x3 x4 x5 x6 x7 x8 x9 x10; obtain ⟨x0, x1, x2, x3, x4, x5, x6, x7, x8, x9, x10⟩ := ((hk.below hb).below hb2).eleven.1))
  go_ret
  exact ⟨by rw [← HV.out]; rfl, hB.trans ((hb.trans (hb2.mono hb.size)).mono hB.size)⟩
set_option maxRecDepth 20000 in
set_option maxHeartbeats 2000000 in
theorem tm_bothm_t (k : Int) (b a0 a1 a2 a3 : Nat) (nt : Bool) (l n : Nat) (h2 : 2 ≤ l) (hn : n ≤ 1000) (hln : l < n) (t : Int) (w : World) : Calls Tryd.prog 29 #[tokI k b a0 a1 a2 a3 nt ((l : Nat) : Int) ((n : Nat) : Int) true t] w (RetS w (repB l ((n : Nat) : Int) true)) := by
  have hB : Below w.heap.size w (w.alloc (.cells #[.int .i64 k, .int .u8 (b : Nat), .int .u64 (a0 : Nat), .int .u64 (a1 : Nat), .int .u64 (a2 : Nat), .int .u64 (a3 : Nat), .bool nt, .int .i64 ((l : Nat) : Int), .int .i64 ((n : Nat) : Int), .bool true, .int .i64 t] 26)) := (Below.refl _ _).alloc (Nat.le_refl _) _
  have HI := num_any l (by omega) (w.alloc (.cells #[.int .i64 k, .int .u8 (b : Nat), .int .u64 (a0 : Nat), .int .u64 (a1 : Nat), .int .u64 (a2 : Nat), .int .u64 (a3 : Nat), .bool nt, .int .i64 ((l : Nat) : Int), .int .i64 ((n : Nat) : Int), .bool true, .int .i64 t] 26))
  have hk := Cl.new w 26 [.int .i64 k, .int .u8 (b : Nat), .int .u64 (a0 : Nat), .int .u64 (a1 : Nat), .int .u64 (a2 : Nat), .int .u64 (a3 : Nat), .bool nt, .int .i64 ((l : Nat) : Int), .int .i64 ((n : Nat) : Int), .bool true, .int .i64 t]
  have hd := dec_len l (by omega)
  have hs1 : (⟨#[123]⟩ : ByteArray).size = 1 := rfl
  have hs2 : (⟨#[125]⟩ : ByteArray).size = 1 := rfl
  have hs3 : (⟨#[44, 125]⟩ : ByteArray).size = 2 := rfl
  have hs4 : (⟨#[44]⟩ : ByteArray).size = 1 := rfl
  have hs5 : (⟨#[63]⟩ : ByteArray).size = 1 := rfl
  have hsa := sz_app
  obtain ⟨S, hS⟩ : ∃ S : ByteArray, S = ⟨(Lib.decDigits l).toArray⟩ := ⟨_, rfl⟩
  have hsz : S.size ≤ 4 := by rw [hS, size_str]; exact hd
  unfold RetS at HI
  rw [← hS] at HI
  have f0 : ((l : Int) == 0) = false := by simp; omega
  have f1 : ((l : Int) == 1) = false := by simp; omega
  have g0 : ¬ l = 0 := by omega
  have g1 : ¬ l = 1 := by omega
  have f2 : ((n : Int) == (l : Int)) = false := by simp; omega
  have g2 : ¬ (n : Int) = (l : Int) := by omega
  have f4 : ((n : Int) == -1) = false := by simp
  have hd2 := dec_len n hn
  obtain ⟨U, hU⟩ : ∃ U : ByteArray, U = ⟨(Lib.decDigits n).toArray⟩ := ⟨_, rfl⟩
  have hsu : U.size ≤ 4 := by rw [hU, size_str]; exact hd2
  have HJ : Hid (∀ W, Calls Tryd.prog 45 #[.int .i64 (n : Nat)] W fun e w' => e = .returned (.string U) ∧ Below W.heap.size W w') := fun W => by
    have := num_any n hn W
    unfold RetS at this
    rw [← hU] at this
    exact this
  have m0 : Hid True := trivial
  have HV : Hid ((⟨#[123]⟩ : ByteArray) ++ S ++ (⟨#[44]⟩ ++ U ++ ⟨#[125]⟩) ++ ⟨#[63]⟩ = ⟨(repB l ((n : Nat) : Int) true).toArray⟩) := by
    show (⟨#[123]⟩ : ByteArray) ++ S ++ (⟨#[44]⟩ ++ U ++ ⟨#[125]⟩) ++ ⟨#[63]⟩ = ⟨(repB l ((n : Nat) : Int) true).toArray⟩
    unfold repB bndB
    apply ByteArray.ext
    simp [ByteArray.data_append, hS, hU, g0, g1, g2]
  clear hS hU hd2 hd
  unfold tokI
  go_enter Tryd.func29, Tryd.ntmps29
  go_wp2_with (go_at_call 45; first | (clear m0; refine HI.mono ?_; clear HI; rintro e w1 ⟨rfl, hb⟩; obtain ⟨x0, x1, x2, x3, x4, x5, x6, x7, x8, x9, x10⟩ := (hk.below hb).eleven.1) | (refine (HJ.out _).mono ?_; rintro e w2 ⟨rfl, hb2⟩; clear x0 x1 x2 x3 x4 x5 x6 x7 x8 x9 x10; obtain ⟨x0, x1, x2, x3, x4, x5, x6, x7, x8, x9, x10⟩ := ((hk.below hb).below hb2).eleven.1))
  go_ret
  exact ⟨by rw [← HV.out]; rfl, hB.trans ((hb.trans (hb2.mono hb.size)).mono hB.size)⟩
set_option maxRecDepth 20000 in
set_option maxHeartbeats 2000000 in
theorem tm_star_f (k : Int) (b a0 a1 a2 a3 : Nat) (nt : Bool) (t : Int) (w : World) : Calls Tryd.prog 29 #[tokI k b a0 a1 a2 a3 nt 0 (-1) false t] w (RetS w (repB 0 (-1) false)) := by
  have hB : Below w.heap.size w (w.alloc (.cells #[.int .i64 k, .int .u8 (b : Nat), .int .u64 (a0 : Nat), .int .u64 (a1 : Nat), .int .u64 (a2 : Nat), .int .u64 (a3 : Nat), .bool nt, .int .i64 0, .int .i64 (-1), .bool false, .int .i64 t] 26)) := (Below.refl _ _).alloc (Nat.le_refl _) _
  have HI := num_any 0 (by omega) (w.alloc (.cells #[.int .i64 k, .int .u8 (b : Nat), .int .u64 (a0 : Nat), .int .u64 (a1 : Nat), .int .u64 (a2 : Nat), .int .u64 (a3 : Nat), .bool nt, .int .i64 0, .int .i64 (-1), .bool false, .int .i64 t] 26))
  have hk := Cl.new w 26 [.int .i64 k, .int .u8 (b : Nat), .int .u64 (a0 : Nat), .int .u64 (a1 : Nat), .int .u64 (a2 : Nat), .int .u64 (a3 : Nat), .bool nt, .int .i64 0, .int .i64 (-1), .bool false, .int .i64 t]
  have hd := dec_len 0 (by omega)
  have hs1 : (⟨#[123]⟩ : ByteArray).size = 1 := rfl
  have hs2 : (⟨#[125]⟩ : ByteArray).size = 1 := rfl
  have hs3 : (⟨#[44, 125]⟩ : ByteArray).size = 2 := rfl
  have hs4 : (⟨#[44]⟩ : ByteArray).size = 1 := rfl
  have hs5 : (⟨#[63]⟩ : ByteArray).size = 1 := rfl
  have hsa := sz_app
  obtain ⟨S, hS⟩ : ∃ S : ByteArray, S = ⟨(Lib.decDigits 0).toArray⟩ := ⟨_, rfl⟩
  have hsz : S.size ≤ 4 := by rw [hS, size_str]; exact hd
  unfold RetS at HI
  rw [← hS] at HI
  have HV : Hid ((⟨#[42]⟩ : ByteArray) = ⟨(repB 0 (-1) false).toArray⟩) := by
    show (⟨#[42]⟩ : ByteArray) = ⟨(repB 0 (-1) false).toArray⟩
    unfold repB bndB
    apply ByteArray.ext
    simp
  clear hS hd
  unfold tokI
  go_enter Tryd.func29, Tryd.ntmps29
  go_wp2_with (go_at_call 45; refine HI.mono ?_; rintro e w1 ⟨rfl, hb⟩; obtain ⟨x0, x1, x2, x3, x4, x5, x6, x7, x8, x9, x10⟩ := (hk.below hb).eleven.1)
  go_ret
  exact ⟨by rw [← HV.out]; rfl, hB.trans (hb.mono hB.size)⟩
set_option maxRecDepth 20000 in
set_option maxHeartbeats 2000000 in
theorem tm_plus_f (k : Int) (b a0 a1 a2 a3 : Nat) (nt : Bool) (t : Int) (w : World) : Calls Tryd.prog 29 #[tokI k b a0 a1 a2 a3 nt 1 (-1) false t] w (RetS w (repB 1 (-1) false)) := by
  have hB : Below w.heap.size w (w.alloc (.cells #[.int .i64 k, .int .u8 (b : Nat), .int .u64 (a0 : Nat), .int .u64 (a1 : Nat), .int .u64 (a2 : Nat), .int .u64 (a3 : Nat), .bool nt, .int .i64 1, .int .i64 (-1), .bool false, .int .i64 t] 26)) := (Below.refl _ _).alloc (Nat.le_refl _) _
  have HI := num_any 1 (by omega) (w.alloc (.cells #[.int .i64 k, .int .u8 (b : Nat), .int .u64 (a0 : Nat), .int .u64 (a1 : Nat), .int .u64 (a2 : Nat), .int .u64 (a3 : Nat), .bool nt, .int .i64 1, .int .i64 (-1), .bool false, .int .i64 t] 26))
  have hk := Cl.new w 26 [.int .i64 k, .int .u8 (b : Nat), .int .u64 (a0 : Nat), .int .u64 (a1 : Nat), .int .u64 (a2 : Nat), .int .u64 (a3 : Nat), .bool nt, .int .i64 1, .int .i64 (-1), .bool false, .int .i64 t]
  have hd := dec_len 1 (by omega)
  have hs1 : (⟨#[123]⟩ : ByteArray).size = 1 := rfl
  have hs2 : (⟨#[125]⟩ : ByteArray).size = 1 := rfl
  have hs3 : (⟨#[44, 125]⟩ : ByteArray).size = 2 := rfl
  have hs4 : (⟨#[44]⟩ : ByteArray).size = 1 := rfl
  have hs5 : (⟨#[63]⟩ : ByteArray).size = 1 := rfl
  have hsa := sz_app
  obtain ⟨S, hS⟩ : ∃ S : ByteArray, S = ⟨(Lib.decDigits 1).toArray⟩ := ⟨_, rfl⟩
  have hsz : S.size ≤ 4 := by rw [hS, size_str]; exact hd
  unfold RetS at HI
  rw [← hS] at HI
  have HV : Hid ((⟨#[43]⟩ : ByteArray) = ⟨(repB 1 (-1) false).toArray⟩) := by
    show (⟨#[43]⟩ : ByteArray) = ⟨(repB 1 (-1) false).toArray⟩
    unfold repB bndB
    apply ByteArray.ext
    simp
  clear hS hd
  unfold tokI
  go_enter Tryd.func29, Tryd.ntmps29
  go_wp2_with (go_at_call 45; refine HI.mono ?_; rintro e w1 ⟨rfl, hb⟩; obtain ⟨x0, x1, x2, x3, x4, x5, x6, x7, x8, x9, x10⟩ := (hk.below hb).eleven.1)
  go_ret
  exact ⟨by rw [← HV.out]; rfl, hB.trans (hb.mono hB.size)⟩
set_option maxRecDepth 20000 in
set_option maxHeartbeats 2000000 in
theorem tm_may_f (k : Int) (b a0 a1 a2 a3 : Nat) (nt : Bool) (t : Int) (w : World) : Calls Tryd.prog 29 #[tokI k b a0 a1 a2 a3 nt 0 1 false t] w (RetS w (repB 0 1 false)) := by
  have hB : Below w.heap.size w (w.alloc (.cells #[.int .i64 k, .int .u8 (b : Nat), .int .u64 (a0 : Nat), .int .u64 (a1 : Nat), .int .u64 (a2 : Nat), .int .u64 (a3 : Nat), .bool nt, .int .i64 0, .int .i64 1, .bool false, .int .i64 t] 26)) := (Below.refl _ _).alloc (Nat.le_refl _) _
  have HI := num_any 0 (by omega) (w.alloc (.cells #[.int .i64 k, .int .u8 (b : Nat), .int .u64 (a0 : Nat), .int .u64 (a1 : Nat), .int .u64 (a2 : Nat), .int .u64 (a3 : Nat), .bool nt, .int .i64 0, .int .i64 1, .bool false, .int .i64 t] 26))
  have hk := Cl.new w 26 [.int .i64 k, .int .u8 (b : Nat), .int .u64 (a0 : Nat), .int .u64 (a1 : Nat), .int .u64 (a2 : Nat), .int .u64 (a3 : Nat), .bool nt, .int .i64 0, .int .i64 1, .bool false, .int .i64 t]
  have hd := dec_len 0 (by omega)
  have hs1 : (⟨#[123]⟩ : ByteArray).size = 1 := rfl
  have hs2 : (⟨#[125]⟩ : ByteArray).size = 1 := rfl
  have hs3 : (⟨#[44, 125]⟩ : ByteArray).size = 2 := rfl
  have hs4 : (⟨#[44]⟩ : ByteArray).size = 1 := rfl
  have hs5 : (⟨#[63]⟩ : ByteArray).size = 1 := rfl
  have hsa := sz_app
  obtain ⟨S, hS⟩ : ∃ S : ByteArray, S = ⟨(Lib.decDigits 0).toArray⟩ := ⟨_, rfl⟩
  have hsz : S.size ≤ 4 := by rw [hS, size_str]; exact hd
  unfold RetS at HI
  rw [← hS] at HI
  have HV : Hid ((⟨#[63]⟩ : ByteArray) = ⟨(repB 0 1 false).toArray⟩) := by
    show (⟨#[63]⟩ : ByteArray) = ⟨(repB 0 1 false).toArray⟩
    unfold repB bndB
    apply ByteArray.ext
    simp
  clear hS hd
  unfold tokI
  go_enter Tryd.func29, Tryd.ntmps29
  go_wp2_with (go_at_call 45; refine HI.mono ?_; rintro e w1 ⟨rfl, hb⟩; obtain ⟨x0, x1, x2, x3, x4, x5, x6, x7, x8, x9, x10⟩ := (hk.below hb).eleven.1)
  go_ret
  exact ⟨by rw [← HV.out]; rfl, hB.trans (hb.mono hB.size)⟩
set_option maxRecDepth 20000 in
set_option maxHeartbeats 2000000 in
theorem tm_from_f (k : Int) (b a0 a1 a2 a3 : Nat) (nt : Bool) (l : Nat) (hl : l ≤ 1000) (h2 : 2 ≤ l) (t : Int) (w : World) : Calls Tryd.prog 29 #[tokI k b a0 a1 a2 a3 nt ((l : Nat) : Int) (-1) false t] w (RetS w (repB l (-1) false)) := by
  have hB : Below w.heap.size w (w.alloc (.cells #[.int .i64 k, .int .u8 (b : Nat), .int .u64 (a0 : Nat), .int .u64 (a1 : Nat), .int .u64 (a2 : Nat), .int .u64 (a3 : Nat), .bool nt, .int .i64 ((l : Nat) : Int), .int .i64 (-1), .bool false, .int .i64 t] 26)) := (Below.refl _ _).alloc (Nat.le_refl _) _
  have HI := num_any l (by omega) (w.alloc (.cells #[.int .i64 k, .int .u8 (b : Nat), .int .u64 (a0 : Nat), .int .u64 (a1 : Nat), .int .u64 (a2 : Nat), .int .u64 (a3 : Nat), .bool nt, .int .i64 ((l : Nat) : Int), .int .i64 (-1), .bool false, .int .i64 t] 26))
  have hk := Cl.new w 26 [.int .i64 k, .int .u8 (b : Nat), .int .u64 (a0 : Nat), .int .u64 (a1 : Nat), .int .u64 (a2 : Nat), .int .u64 (a3 : Nat), .bool nt, .int .i64 ((l : Nat) : Int), .int .i64 (-1), .bool false, .int .i64 t]
  have hd := dec_len l (by omega)
  have hs1 : (⟨#[123]⟩ : ByteArray).size = 1 := rfl
  have hs2 : (⟨#[125]⟩ : ByteArray).size = 1 := rfl
  have hs3 : (⟨#[44, 125]⟩ : ByteArray).size = 2 := rfl
  have hs4 : (⟨#[44]⟩ : ByteArray).size = 1 := rfl
  have hs5 : (⟨#[63]⟩ : ByteArray).size = 1 := rfl
  have hsa := sz_app
  obtain ⟨S, hS⟩ : ∃ S : ByteArray, S = ⟨(Lib.decDigits l).toArray⟩ := ⟨_, rfl⟩
  have hsz : S.size ≤ 4 := by rw [hS, size_str]; exact hd
  unfold RetS at HI
  rw [← hS] at HI
  have f0 : ((l : Int) == 0) = false := by simp; omega
  have f1 : ((l : Int) == 1) = false := by simp; omega
  have g0 : ¬ l = 0 := by omega
  have g1 : ¬ l = 1 := by omega
  have g3 : ¬ (-1 : Int) = (l : Int) := by omega
  have HV : Hid ((⟨#[123]⟩ : ByteArray) ++ S ++ ⟨#[44, 125]⟩ = ⟨(repB l (-1) false).toArray⟩) := by
    show (⟨#[123]⟩ : ByteArray) ++ S ++ ⟨#[44, 125]⟩ = ⟨(repB l (-1) false).toArray⟩
    unfold repB bndB
    apply ByteArray.ext
    simp [ByteArray.data_append, hS, g0, g1, g3]
  clear hS hd
  unfold tokI
  go_enter Tryd.func29, Tryd.ntmps29
  go_wp2_with (go_at_call 45; refine HI.mono ?_; rintro e w1 ⟨rfl, hb⟩; obtain ⟨x0, x1, x2, x3, x4, x5, x6, x7, x8, x9, x10⟩ := (hk.below hb).eleven.1)
  go_ret
  exact ⟨by rw [← HV.out]; rfl, hB.trans (hb.mono hB.size)⟩
set_option maxRecDepth 20000 in
set_option maxHeartbeats 2000000 in
theorem tm_just0_f (k : Int) (b a0 a1 a2 a3 : Nat) (nt : Bool) (t : Int) (w : World) : Calls Tryd.prog 29 #[tokI k b a0 a1 a2 a3 nt 0 0 false t] w (RetS w (repB 0 0 false)) := by
  have hB : Below w.heap.size w (w.alloc (.cells #[.int .i64 k, .int .u8 (b : Nat), .int .u64 (a0 : Nat), .int .u64 (a1 : Nat), .int .u64 (a2 : Nat), .int .u64 (a3 : Nat), .bool nt, .int .i64 0, .int .i64 0, .bool false, .int .i64 t] 26)) := (Below.refl _ _).alloc (Nat.le_refl _) _
  have HI := num_any 0 (by omega) (w.alloc (.cells #[.int .i64 k, .int .u8 (b : Nat), .int .u64 (a0 : Nat), .int .u64 (a1 : Nat), .int .u64 (a2 : Nat), .int .u64 (a3 : Nat), .bool nt, .int .i64 0, .int .i64 0, .bool false, .int .i64 t] 26))
  have hk := Cl.new w 26 [.int .i64 k, .int .u8 (b : Nat), .int .u64 (a0 : Nat), .int .u64 (a1 : Nat), .int .u64 (a2 : Nat), .int .u64 (a3 : Nat), .bool nt, .int .i64 0, .int .i64 0, .bool false, .int .i64 t]
  have hd := dec_len 0 (by omega)
  have hs1 : (⟨#[123]⟩ : ByteArray).size = 1 := rfl
  have hs2 : (⟨#[125]⟩ : ByteArray).size = 1 := rfl
  have hs3 : (⟨#[44, 125]⟩ : ByteArray).size = 2 := rfl
  have hs4 : (⟨#[44]⟩ : ByteArray).size = 1 := rfl
  have hs5 : (⟨#[63]⟩ : ByteArray).size = 1 := rfl
  have hsa := sz_app
  obtain ⟨S, hS⟩ : ∃ S : ByteArray, S = ⟨(Lib.decDigits 0).toArray⟩ := ⟨_, rfl⟩
  have hsz : S.size ≤ 4 := by rw [hS, size_str]; exact hd
  unfold RetS at HI
  rw [← hS] at HI
  have HV : Hid ((⟨#[123]⟩ : ByteArray) ++ S ++ ⟨#[125]⟩ = ⟨(repB 0 0 false).toArray⟩) := by
    show (⟨#[123]⟩ : ByteArray) ++ S ++ ⟨#[125]⟩ = ⟨(repB 0 0 false).toArray⟩
    unfold repB bndB
    apply ByteArray.ext
    simp [ByteArray.data_append, hS]
  clear hS hd
  unfold tokI
  go_enter Tryd.func29, Tryd.ntmps29
  go_wp2_with (go_at_call 45; refine HI.mono ?_; rintro e w1 ⟨rfl, hb⟩; obtain ⟨x0, x1, x2, x3, x4, x5, x6, x7, x8, x9, x10⟩ := (hk.below hb).eleven.1)
  go_ret
  exact ⟨by rw [← HV.out]; rfl, hB.trans (hb.mono hB.size)⟩
set_option maxRecDepth 20000 in
set_option maxHeartbeats 2000000 in
theorem tm_just1_f (k : Int) (b a0 a1 a2 a3 : Nat) (nt : Bool) (t : Int) (w : World) : Calls Tryd.prog 29 #[tokI k b a0 a1 a2 a3 nt 1 1 false t] w (RetS w (repB 1 1 false)) := by
  have hB : Below w.heap.size w (w.alloc (.cells #[.int .i64 k, .int .u8 (b : Nat), .int .u64 (a0 : Nat), .int .u64 (a1 : Nat), .int .u64 (a2 : Nat), .int .u64 (a3 : Nat), .bool nt, .int .i64 1, .int .i64 1, .bool false, .int .i64 t] 26)) := (Below.refl _ _).alloc (Nat.le_refl _) _
  have HI := num_any 1 (by omega) (w.alloc (.cells #[.int .i64 k, .int .u8 (b : Nat), .int .u64 (a0 : Nat), .int .u64 (a1 : Nat), .int .u64 (a2 : Nat), .int .u64 (a3 : Nat), .bool nt, .int .i64 1, .int .i64 1, .bool false, .int .i64 t] 26))
  have hk := Cl.new w 26 [.int .i64 k, .int .u8 (b : Nat), .int .u64 (a0 : Nat), .int .u64 (a1 : Nat), .int .u64 (a2 : Nat), .int .u64 (a3 : Nat), .bool nt, .int .i64 1, .int .i64 1, .bool false, .int .i64 t]
  have hd := dec_len 1 (by omega)
  have hs1 : (⟨#[123]⟩ : ByteArray).size = 1 := rfl
  have hs2 : (⟨#[125]⟩ : ByteArray).size = 1 := rfl
  have hs3 : (⟨#[44, 125]⟩ : ByteArray).size = 2 := rfl
  have hs4 : (⟨#[44]⟩ : ByteArray).size = 1 := rfl
  have hs5 : (⟨#[63]⟩ : ByteArray).size = 1 := rfl
  have hsa := sz_app
  obtain ⟨S, hS⟩ : ∃ S : ByteArray, S = ⟨(Lib.decDigits 1).toArray⟩ := ⟨_, rfl⟩
  have hsz : S.size ≤ 4 := by rw [hS, size_str]; exact hd
  unfold RetS at HI
  rw [← hS] at HI
  have HV : Hid ((⟨#[123]⟩ : ByteArray) ++ S ++ ⟨#[125]⟩ = ⟨(repB 1 1 false).toArray⟩) := by
    show (⟨#[123]⟩ : ByteArray) ++ S ++ ⟨#[125]⟩ = ⟨(repB 1 1 false).toArray⟩
    unfold repB bndB
    apply ByteArray.ext
    simp [ByteArray.data_append, hS]
  clear hS hd
  unfold tokI
  go_enter Tryd.func29, Tryd.ntmps29
  go_wp2_with (go_at_call 45; refine HI.mono ?_; rintro e w1 ⟨rfl, hb⟩; obtain ⟨x0, x1, x2, x3, x4, x5, x6, x7, x8, x9, x10⟩ := (hk.below hb).eleven.1)
  go_ret
  exact ⟨by rw [← HV.out]; rfl, hB.trans (hb.mono hB.size)⟩
set_option maxRecDepth 20000 in
set_option maxHeartbeats 2000000 in
theorem tm_justm_f (k : Int) (b a0 a1 a2 a3 : Nat) (nt : Bool) (l : Nat) (hl : l ≤ 1000) (h2 : 2 ≤ l) (t : Int) (w : World) : Calls Tryd.prog 29 #[tokI k b a0 a1 a2 a3 nt ((l : Nat) : Int) ((l : Nat) : Int) false t] w (RetS w (repB l ((l : Nat) : Int) false)) := by
  have hB : Below w.heap.size w (w.alloc (.cells #[.int .i64 k, .int .u8 (b : Nat), .int .u64 (a0 : Nat), .int .u64 (a1 : Nat), .int .u64 (a2 : Nat), .int .u64 (a3 : Nat), .bool nt, .int .i64 ((l : Nat) : Int), .int .i64 ((l : Nat) : Int), .bool false, .int .i64 t] 26)) := (Below.refl _ _).alloc (Nat.le_refl _) _
  have HI := num_any l (by omega) (w.alloc (.cells #[.int .i64 k, .int .u8 (b : Nat), .int .u64 (a0 : Nat), .int .u64 (a1 : Nat), .int .u64 (a2 : Nat), .int .u64 (a3 : Nat), .bool nt, .int .i64 ((l : Nat) : Int), .int .i64 ((l : Nat) : Int), .bool false, .int .i64 t] 26))
  have hk := Cl.new w 26 [.int .i64 k, .int .u8 (b : Nat), .int .u64 (a0 : Nat), .int .u64 (a1 : Nat), .int .u64 (a2 : Nat), .int .u64 (a3 : Nat), .bool nt, .int .i64 ((l : Nat) : Int), .int .i64 ((l : Nat) : Int), .bool false, .int .i64 t]
  have hd := dec_len l (by omega)
  have hs1 : (⟨#[123]⟩ : ByteArray).size = 1 := rfl
  have hs2 : (⟨#[125]⟩ : ByteArray).size = 1 := rfl
  have hs3 : (⟨#[44, 125]⟩ : ByteArray).size = 2 := rfl
  have hs4 : (⟨#[44]⟩ : ByteArray).size = 1 := rfl
  have hs5 : (⟨#[63]⟩ : ByteArray).size = 1 := rfl
  have hsa := sz_app
  obtain ⟨S, hS⟩ : ∃ S : ByteArray, S = ⟨(Lib.decDigits l).toArray⟩ := ⟨_, rfl⟩
  have hsz : S.size ≤ 4 := by rw [hS, size_str]; exact hd
  unfold RetS at HI
  rw [← hS] at HI
  have f0 : ((l : Int) == 0) = false := by simp; omega
  have f1 : ((l : Int) == 1) = false := by simp; omega
  have g0 : ¬ l = 0 := by omega
  have g1 : ¬ l = 1 := by omega
  have f2 : ((l : Int) == -1) = false := by simp
  have HV : Hid ((⟨#[123]⟩ : ByteArray) ++ S ++ ⟨#[125]⟩ = ⟨(repB l ((l : Nat) : Int) false).toArray⟩) := by
    show (⟨#[123]⟩ : ByteArray) ++ S ++ ⟨#[125]⟩ = ⟨(repB l ((l : Nat) : Int) false).toArray⟩
    unfold repB bndB
    apply ByteArray.ext
    simp [ByteArray.data_append, hS, g0, g1]
  clear hS hd
  unfold tokI
  go_enter Tryd.func29, Tryd.ntmps29
  go_wp2_with (go_at_call 45; refine HI.mono ?_; rintro e w1 ⟨rfl, hb⟩; obtain ⟨x0, x1, x2, x3, x4, x5, x6, x7, x8, x9, x10⟩ := (hk.below hb).eleven.1)
  go_ret
  exact ⟨by rw [← HV.out]; rfl, hB.trans (hb.mono hB.size)⟩
set_option maxRecDepth 20000 in
set_option maxHeartbeats 2000000 in
theorem tm_both0_f (k : Int) (b a0 a1 a2 a3 : Nat) (nt : Bool) (n : Nat) (hn : n ≤ 1000) (h2 : 2 ≤ n) (t : Int) (w : World) : Calls Tryd.prog 29 #[tokI k b a0 a1 a2 a3 nt 0 ((n : Nat) : Int) false t] w (RetS w (repB 0 ((n : Nat) : Int) false)) := by
  have hB : Below w.heap.size w (w.alloc (.cells #[.int .i64 k, .int .u8 (b : Nat), .int .u64 (a0 : Nat), .int .u64 (a1 : Nat), .int .u64 (a2 : Nat), .int .u64 (a3 : Nat), .bool nt, .int .i64 0, .int .i64 ((n : Nat) : Int), .bool false, .int .i64 t] 26)) := (Below.refl _ _).alloc (Nat.le_refl _) _
  have HI := num_any 0 (by omega) (w.alloc (.cells #[.int .i64 k, .int .u8 (b : Nat), .int .u64 (a0 : Nat), .int .u64 (a1 : Nat), .int .u64 (a2 : Nat), .int .u64 (a3 : Nat), .bool nt, .int .i64 0, .int .i64 ((n : Nat) : Int), .bool false, .int .i64 t] 26))
  have hk := Cl.new w 26 [.int .i64 k, .int .u8 (b : Nat), .int .u64 (a0 : Nat), .int .u64 (a1 : Nat), .int .u64 (a2 : Nat), .int .u64 (a3 : Nat), .bool nt, .int .i64 0, .int .i64 ((n : Nat) : Int), .bool false, .int .i64 t]
  have hd := dec_len 0 (by omega)
  have hs1 : (⟨#[123]⟩ : ByteArray).size = 1 := rfl
  have hs2 : (⟨#[125]⟩ : ByteArray).size = 1 := rfl
  have hs3 : (⟨#[44, 125]⟩ : ByteArray).size = 2 := rfl
  have hs4 : (⟨#[44]⟩ : ByteArray).size = 1 := rfl
  have hs5 : (⟨#[63]⟩ : ByteArray).size = 1 := rfl
  have hsa := sz_app
  obtain ⟨S, hS⟩ : ∃ S : ByteArray, S = ⟨(Lib.decDigits 0).toArray⟩ := ⟨_, rfl⟩
  have hsz : S.size ≤ 4 := by rw [hS, size_str]; exact hd
  unfold RetS at HI
  rw [← hS] at HI
  have f2 : ((n : Int) == 1) = false := by simp; omega
  have f3 : ((n : Int) == 0) = false := by simp; omega
  have g1 : ¬ (n : Int) = 1 := by omega
  have g2 : ¬ n = 0 := by omega
  have f4 : ((n : Int) == -1) = false := by simp
  have hd2 := dec_len n hn
  obtain ⟨U, hU⟩ : ∃ U : ByteArray, U = ⟨(Lib.decDigits n).toArray⟩ := ⟨_, rfl⟩
  have hsu : U.size ≤ 4 := by rw [hU, size_str]; exact hd2
  have HJ : Hid (∀ W, Calls Tryd.prog 45 #[.int .i64 (n : Nat)] W fun e w' => e = .returned (.string U) ∧ Below W.heap.size W w') := fun W => by
    have := num_any n hn W
    unfold RetS at this
    rw [← hU] at this
    exact this
  have m0 : Hid True := trivial
  have HV : Hid ((⟨#[123]⟩ : ByteArray) ++ S ++ (⟨#[44]⟩ ++ U ++ ⟨#[125]⟩) = ⟨(repB 0 ((n : Nat) : Int) false).toArray⟩) := by
    show (⟨#[123]⟩ : ByteArray) ++ S ++ (⟨#[44]⟩ ++ U ++ ⟨#[125]⟩) = ⟨(repB 0 ((n : Nat) : Int) false).toArray⟩
    unfold repB bndB
    apply ByteArray.ext
    simp [ByteArray.data_append, hS, hU, g1, g2]
  clear hS hU hd2 hd
  unfold tokI
  go_enter Tryd.func29, Tryd.ntmps29
  go_wp2_with (go_at_call 45; first | (clear m0; refine HI.mono ?_; clear HI; rintro e w1 ⟨rfl, hb⟩; obtain ⟨x0, x1, x2, x3, x4, x5, x6, x7, x8, x9, x10⟩ := (hk.below hb).eleven.1) | (refine (HJ.out _).mono ?_; rintro e w2 ⟨rfl, hb2⟩; clear x0 x1 x2 x3 x4 x5 x6 x7 x8 x9 x10; obtain ⟨x0, x1, x2, x3, x4, x5, x6, x7, x8, x9, x10⟩ := ((hk.below hb).below hb2).eleven.1))
  go_ret
  exact ⟨by rw [← HV.out]; rfl, hB.trans ((hb.trans (hb2.mono hb.size)).mono hB.size)⟩
set_option maxRecDepth 20000 in
set_option maxHeartbeats 2000000 in
theorem tm_both1_f (k : Int) (b a0 a1 a2 a3 : Nat) (nt : Bool) (n : Nat) (hn : n ≤ 1000) (h2 : 2 ≤ n) (t : Int) (w : World) : Calls Tryd.prog 29 #[tokI k b a0 a1 a2 a3 nt 1 ((n : Nat) : Int) false t] w (RetS w (repB 1 ((n : Nat) : Int) false)) := by
  have hB : Below w.heap.size w (w.alloc (.cells #[.int .i64 k, .int .u8 (b : Nat), .int .u64 (a0 : Nat), .int .u64 (a1 : Nat), .int .u64 (a2 : Nat), .int .u64 (a3 : Nat), .bool nt, .int .i64 1, .int .i64 ((n : Nat) : Int), .bool false, .int .i64 t] 26)) := (Below.refl _ _).alloc (Nat.le_refl _) _
  have HI := num_any 1 (by omega) (w.alloc (.cells #[.int .i64 k, .int .u8 (b : Nat), .int .u64 (a0 : Nat), .int .u64 (a1 : Nat), .int .u64 (a2 : Nat), .int .u64 (a3 : Nat), .bool nt, .int .i64 1, .int .i64 ((n : Nat) : Int), .bool false, .int .i64 t] 26))
  have hk := Cl.new w 26 [.int .i64 k, .int .u8 (b : Nat), .int .u64 (a0 : Nat), .int .u64 (a1 : Nat), .int .u64 (a2 : Nat), .int .u64 (a3 : Nat), .bool nt, .int .i64 1, .int .i64 ((n : Nat) : Int), .bool false, .int .i64 t]
  have hd := dec_len 1 (by omega)
  have hs1 : (⟨#[123]⟩ : ByteArray).size = 1 := rfl
  have hs2 : (⟨#[125]⟩ : ByteArray).size = 1 := rfl
  have hs3 : (⟨#[44, 125]⟩ : ByteArray).size = 2 := rfl
  have hs4 : (⟨#[44]⟩ : ByteArray).size = 1 := rfl
  have hs5 : (⟨#[63]⟩ : ByteArray).size = 1 := rfl
  have hsa := sz_app
  obtain ⟨S, hS⟩ : ∃ S : ByteArray, S = ⟨(Lib.decDigits 1).toArray⟩ := ⟨_, rfl⟩
  have hsz : S.size ≤ 4 := by rw [hS, size_str]; exact hd
  unfold RetS at HI
  rw [← hS] at HI
  have f2 : ((n : Int) == 1) = false := by simp; omega
  have g1 : ¬ (n : Int) = 1 := by omega
  have f4 : ((n : Int) == -1) = false := by simp
  have hd2 := dec_len n hn
  obtain ⟨U, hU⟩ : ∃ U : ByteArray, U = ⟨(Lib.decDigits n).toArray⟩ := ⟨_, rfl⟩
  have hsu : U.size ≤ 4 := by rw [hU, size_str]; exact hd2
  have HJ : Hid (∀ W, Calls Tryd.prog 45 #[.int .i64 (n : Nat)] W fun e w' => e = .returned (.string U) ∧ Below W.heap.size W w') := fun W => by
    have := num_any n hn W
    unfold RetS at this
    rw [← hU] at this
    exact this
  have m0 : Hid True := trivial
  have HV : Hid ((⟨#[123]⟩ : ByteArray) ++ S ++ (⟨#[44]⟩ ++ U ++ ⟨#[125]⟩) = ⟨(repB 1 ((n : Nat) : Int) false).toArray⟩) := by
    show (⟨#[123]⟩ : ByteArray) ++ S ++ (⟨#[44]⟩ ++ U ++ ⟨#[125]⟩) = ⟨(repB 1 ((n : Nat) : Int) false).toArray⟩
    unfold repB bndB
    apply ByteArray.ext
    simp [ByteArray.data_append, hS, hU, g1]
  clear hS hU hd2 hd
  unfold tokI
  go_enter Tryd.func29, Tryd.ntmps29
  go_wp2_with (go_at_call 45; first | (clear m0; refine HI.mono ?_; clear HI; rintro e w1 ⟨rfl, hb⟩; obtain ⟨x0, x1, x2, x3, x4, x5, x6, x7, x8, x9, x10⟩ := (hk.below hb).eleven.1) | (refine (HJ.out _).mono ?_; rintro e w2 ⟨rfl, hb2⟩; clear x0 x1 x2 x3 x4 x5 x6 x7 x8 x9 x10; obtain ⟨x0, x1, x2, x3, x4, x5, x6, x7, x8, x9, x10⟩ := ((hk.below hb).below hb2).eleven.1))
  go_ret
  exact ⟨by rw [← HV.out]; rfl, hB.trans ((hb.trans (hb2.mono hb.size)).mono hB.size)⟩
set_option maxRecDepth 20000 in
set_option maxHeartbeats 2000000 in
theorem tm_bothm_f (k : Int) (b a0 a1 a2 a3 : Nat) (nt : Bool) (l n : Nat) (h2 : 2 ≤ l) (hn : n ≤ 1000) (hln : l < n) (t : Int) (w : World) : Calls Tryd.prog 29 #[tokI k b a0 a1 a2 a3 nt ((l : Nat) : Int) ((n : Nat) : Int) false t] w (RetS w (repB l ((n : Nat) : Int) false)) := by
  have hB : Below w.heap.size w (w.alloc (.cells #[.int .i64 k, .int .u8 (b : Nat), .int .u64 (a0 : Nat), .int .u64 (a1 : Nat), .int .u64 (a2 : Nat), .int .u64 (a3 : Nat), .bool nt, .int .i64 ((l : Nat) : Int), .int .i64 ((n : Nat) : Int), .bool false, .int .i64 t] 26)) := (Below.refl _ _).alloc (Nat.le_refl _) _
  have HI := num_any l (by omega) (w.alloc (.cells #[.int .i64 k, .int .u8 (b : Nat), .int .u64 (a0 : Nat), .int .u64 (a1 : Nat), .int .u64 (a2 : Nat), .int .u64 (a3 : Nat), .bool nt, .int .i64 ((l : Nat) : Int), .int .i64 ((n : Nat) : Int), .bool false, .int .i64 t] 26))
  have hk := Cl.new w 26 [.int .i64 k, .int .u8 (b : Nat), .int .u64 (a0 : Nat), .int .u64 (a1 : Nat), .int .u64 (a2 : Nat), .int .u64 (a3 : Nat), .bool nt, .int .i64 ((l : Nat) : Int), .int .i64 ((n : Nat) : Int), .bool false, .int .i64 t]
  have hd := dec_len l (by omega)
  have hs1 : (⟨#[123]⟩ : ByteArray).size = 1 := rfl
  have hs2 : (⟨#[125]⟩ : ByteArray).size = 1 := rfl
  have hs3 : (⟨#[44, 125]⟩ : ByteArray).size = 2 := rfl
  have hs4 : (⟨#[44]⟩ : ByteArray).size = 1 := rfl
  have hs5 : (⟨#[63]⟩ : ByteArray).size = 1 := rfl
  have hsa := sz_app
  obtain ⟨S, hS⟩ : ∃ S : ByteArray, S = ⟨(Lib.decDigits l).toArray⟩ := ⟨_, rfl⟩
  have hsz : S.size ≤ 4 := by rw [hS, size_str]; exact hd
  unfold RetS at HI
  rw [← hS] at HI
  have f0 : ((l : Int) == 0) = false := by simp; omega
  have f1 : ((l : Int) == 1) = false := by simp; omega
  have g0 : ¬ l = 0 := by omega
  have g1 : ¬ l = 1 := by omega
  have f2 : ((n : Int) == (l : Int)) = false := by simp; omega
  have g2 : ¬ (n : Int) = (l : Int) := by omega
  have f4 : ((n : Int) == -1) = false := by simp
  have hd2 := dec_len n hn
  obtain ⟨U, hU⟩ : ∃ U : ByteArray, U = ⟨(Lib.decDigits n).toArray⟩ := ⟨_, rfl⟩
  have hsu : U.size ≤ 4 := by rw [hU, size_str]; exact hd2
  have HJ : Hid (∀ W, Calls Tryd.prog 45 #[.int .i64 (n : Nat)] W fun e w' => e = .returned (.string U) ∧ Below W.heap.size W w') := fun W => by
    have := num_any n hn W
    unfold RetS at this
    rw [← hU] at this
    exact this
  have m0 : Hid True := trivial
  have HV : Hid ((⟨#[123]⟩ : ByteArray) ++ S ++ (⟨#[44]⟩ ++ U ++ ⟨#[125]⟩) = ⟨(repB l ((n : Nat) : Int) false).toArray⟩) := by
    show (⟨#[123]⟩ : ByteArray) ++ S ++ (⟨#[44]⟩ ++ U ++ ⟨#[125]⟩) = ⟨(repB l ((n : Nat) : Int) false).toArray⟩
    unfold repB bndB
    apply ByteArray.ext
    simp [ByteArray.data_append, hS, hU, g0, g1, g2]
  clear hS hU hd2 hd
  unfold tokI
  go_enter Tryd.func29, Tryd.ntmps29
  go_wp2_with (go_at_call 45; first | (clear m0; refine HI.mono ?_; clear HI; rintro e w1 ⟨rfl, hb⟩; obtain ⟨x0, x1, x2, x3, x4, x5, x6, x7, x8, x9, x10⟩ := (hk.below hb).eleven.1) | (refine (HJ.out _).mono ?_; rintro e w2 ⟨rfl, hb2⟩; clear x0 x1 x2 x3 x4 x5 x6 x7 x8 x9 x10; obtain ⟨x0, x1, x2, x3, x4, x5, x6, x7, x8, x9, x10⟩ := ((hk.below hb).below hb2).eleven.1))
  go_ret
  exact ⟨by rw [← HV.out]; rfl, hB.trans ((hb.trans (hb2.mono hb.size)).mono hB.size)⟩
end Go.Proofs.YtkbeiadbolihiaaDoor
