/-
  The walks of bv's divideSigned, arithmetic and Bin for the divisions.
-/
import Derived.Test.YtdjaikglkgabdaaGreatDoorWl
import Derived.Test.YtdjaikglkgabdaaGreatDoorWo
namespace Go.Proofs.YtdjaikglkgabdaaGreatDoor
open Go.RowKit
set_option maxRecDepth 100000 in
set_option maxHeartbeats 400000 in
theorem divS_zero (n x q r : Nat) (w : World)
    (hDv : ∀ w, Calls Tryz.prog 130 #[vv n x, vv n 0] w (RV w (.tuple #[vv n q, vv n r]))) :
    Calls Tryz.prog 131 #[vv n x, vv n 0] w (RV w (.tuple #[vv n q, vv n r])) := by
  have hz := fun w => isZero_v n 0 w
  have e0 : ((0 : Nat) == 0) = true := rfl
  rw [e0] at hz
  clear e0
  replace hz := Lib.hid hz
  replace hDv := Lib.hid hDv
  go_enter Tryz.func131, Tryz.ntmps131
  go_wp2_with fail
  (with_reducible refine (hz.out _).mono ?_)
  rintro e w1 ⟨rfl, hb1⟩
  obtain ⟨A1, B1, Q1, R1, hbw1⟩ := start4 hb1
  have a1 := A1.all
  have b1 := B1.all
  clear hb1
  go_wp2_with fail
  (with_reducible refine (hDv.out _).mono ?_)
  rintro e w2 ⟨rfl, hb2⟩
  have Q2 := Q1.over hb2
  have R2 := R1.over hb2
  have hbw2 : Below w.heap.size w w2 := below_call hb2 hbw1
  have q2 := Q2.all
  have r2 := R2.all
  clear hb2 a1 b1 A1 B1 Q1 R1 hbw1
  go_wp2_with fail
  refine bodyPost_ret (v := .tuple #[vv n q, vv n r]) (by simp [results, Tryz.results131, go_sem, q2, r2]) rfl ⟨rfl, ?_⟩
  repeat' (first | (with_reducible refine Below.drew ?_) | (with_reducible refine Below.setCell ?_ ?_ _))
  all_goals (first | exact hbw2 | (show w.heap.size ≤ _ + 1; omega))

/-- The two results of a division with signs: all bits set and the dividend where the divisor is 0. -/
def qS (n x y : Nat) : Nat := if y = 0 then 2 ^ n - 1 else sdivN n x y
def rS (n x y : Nat) : Nat := if y = 0 then x else sremN n x y
def qU (n x y : Nat) : Nat := if y = 0 then 2 ^ n - 1 else x / y
def rU (x y : Nat) : Nat := if y = 0 then x else x % y
theorem qU_lt (n x y : Nat) (hx : x < 2 ^ n) : qU n x y < 2 ^ n := by
  unfold qU; split
  · omega
  · exact Nat.lt_of_le_of_lt (Nat.div_le_self _ _) hx
theorem rU_lt (n x y : Nat) (hx : x < 2 ^ n) : rU x y < 2 ^ n := by
  unfold rU; split
  · exact hx
  · exact Nat.lt_of_le_of_lt (Nat.mod_le _ _) hx
theorem qS_lt (n x y : Nat) (hx : x < 2 ^ n) : qS n x y < 2 ^ n := by
  unfold qS; split
  · omega
  · exact sgnN_lt n _ _ (Nat.lt_of_le_of_lt (Nat.div_le_self _ _) (magN_lt n x hx))
theorem rS_lt (n x y : Nat) (hx : x < 2 ^ n) : rS n x y < 2 ^ n := by
  unfold rS; split
  · exact hx
  · exact sgnN_lt n _ _ (Nat.lt_of_le_of_lt (Nat.mod_le _ _) (magN_lt n x hx))
theorem divide_v (n x y : Nat) (w : World) (hn : n ≤ 128) (hx : x < 2 ^ n) (hy : y < 2 ^ n) :
    Calls Tryz.prog 130 #[vv n x, vv n y] w (RV w (.tuple #[vv n (qU n x y), vv n (rU x y)])) := by
  unfold qU rU
  rcases Nat.eq_zero_or_pos y with rfl | h
  · simp only [if_true]; exact divide_zero n x w hn
  · rw [if_neg (by omega), if_neg (by omega)]; exact divide_pos n x y w hn hx h hy
theorem divideSigned_v (n x y : Nat) (w : World) (hn : n ≤ 128) (hx : x < 2 ^ n) (hy : y < 2 ^ n) :
    Calls Tryz.prog 131 #[vv n x, vv n y] w (RV w (.tuple #[vv n (qS n x y), vv n (rS n x y)])) := by
  unfold qS rS
  rcases Nat.eq_zero_or_pos y with rfl | h
  · simp only [if_true]; exact divS_zero n x _ _ w (fun w => divide_zero n x w hn)
  · rw [if_neg (by omega), if_neg (by omega)]
    have hz := fun w => isZero_v n y w
    have e0 : (y == 0) = false := by simp; omega
    rw [e0] at hz
    have hMx := fun w => magnitude_v n x w hn hx
    have hMy := fun w => magnitude_v n y w hn hy
    change ∀ w, Calls Tryz.prog 143 #[vv n x] w (RV w (vv n (magN n x))) at hMx
    change ∀ w, Calls Tryz.prog 143 #[vv n y] w (RV w (vv n (magN n y))) at hMy
    have hmx := magN_lt n x hx
    have hDv := fun w => divide_pos n (magN n x) (magN n y) w hn hmx (magN_pos n y hy h) (magN_lt n y hy)
    have hNx := fun w => isNegative_v n x w hn hx
    have hNy := fun w => isNegative_v n y w hn hy
    have hGq := fun w => negate_v n (magN n x / magN n y) w hn (Nat.lt_of_le_of_lt (Nat.div_le_self _ _) hmx)
    have hGr := fun w => negate_v n (magN n x % magN n y) w hn (Nat.lt_of_le_of_lt (Nat.mod_le _ _) hmx)
    unfold sdivN sremN sgnN
    generalize magN n x / magN n y = q at *
    generalize magN n x % magN n y = r at *
    generalize x.testBit (n - 1) = sx at *
    generalize y.testBit (n - 1) = sy at *
    cases sx <;> cases sy
    · exact divS_ff n x y _ _ q r _ _ w hz hMx hMy hDv hNx hNy hGq hGr
    · exact divS_ft n x y _ _ q r _ _ w hz hMx hMy hDv hNx hNy hGq hGr
    · exact divS_tf n x y _ _ q r _ _ w hz hMx hMy hDv hNx hNy hGq hGr
    · exact divS_tt n x y _ _ q r _ _ w hz hMx hMy hDv hNx hNy hGq hGr

set_option maxHeartbeats 800000 in
theorem arith_3 (n x y q r : Nat) (w : World)
    (hC : ∀ w, Calls Tryz.prog 130 #[vv n x, vv n y] w (RV w (.tuple #[vv n q, vv n r]))) :
    Calls Tryz.prog 120 #[.int .i64 3, vv n x, vv n y] w (RV w (vv n q)) := by
  replace hC := Lib.hid hC
  go_enter Tryz.func120, Tryz.ntmps120
  go_wp2_with (go_at_call 130; (with_reducible refine (hC.out _).mono ?_); rintro e w1 ⟨rfl, hb1⟩; have Z1 := (HV.zero ((w.alloc (.cells (vcs n x) 106)).alloc (.cells (vcs n y) 106)) 106).over hb1; simp only [World.size_alloc] at Z1; have hbw1 : Below w.heap.size w w1 := below_call hb1 (by go_grown); have z1 := Z1.all; have l1 := Z1.lt; have l2 := Nat.lt_succ_of_lt l1; have s1 := hbw1.size; clear hb1)
  refine bodyPost_ret (v := vv n q) (by simp [results, Tryz.results120, go_sem, z1, l1, l2]) rfl ⟨rfl, ?_⟩
  go_grown
set_option maxHeartbeats 400000 in
theorem Bin_3 (n x y q r : Nat) (w : World) (h0 : 1 ≤ n)
    (hC0 : ∀ w, Calls Tryz.prog 130 #[vv n x, vv n y] w (RV w (.tuple #[vv n q, vv n r]))) :
    Calls Tryz.prog 112 #[.int .i64 3, vv n x, vv n y] w (RV w (.tuple #[vv n q, .int .i64 0])) := by
  have hC := fun w => arith_3 n x y q r w hC0
  clear hC0
  replace hC := Lib.hid hC
  go_enter Tryz.func112, Tryz.ntmps112
  go_wp2_with (go_at_call 120; (with_reducible refine (hC.out _).mono ?_); rintro e w1 ⟨rfl, hb1⟩; obtain ⟨hc1, hf1⟩ := bcell hb1)
  have hbw : Below w.heap.size w w1 := below_call hb1 (by go_grown)
  refine bodyPost_ret (v := .tuple #[vv n q, .int .i64 0]) (by simp [results, Tryz.results112, go_sem, hc1]) rfl ⟨rfl, ?_⟩
  clear hb1 hc1 hf1
  go_grown

set_option maxHeartbeats 800000 in
theorem arith_4 (n x y q r : Nat) (w : World)
    (hC : ∀ w, Calls Tryz.prog 130 #[vv n x, vv n y] w (RV w (.tuple #[vv n q, vv n r]))) :
    Calls Tryz.prog 120 #[.int .i64 4, vv n x, vv n y] w (RV w (vv n r)) := by
  replace hC := Lib.hid hC
  go_enter Tryz.func120, Tryz.ntmps120
  go_wp2_with (go_at_call 130; (with_reducible refine (hC.out _).mono ?_); rintro e w1 ⟨rfl, hb1⟩; have Z1 := (HV.zero ((w.alloc (.cells (vcs n x) 106)).alloc (.cells (vcs n y) 106)) 106).over hb1; simp only [World.size_alloc] at Z1; have hbw1 : Below w.heap.size w w1 := below_call hb1 (by go_grown); have z1 := Z1.all; have l1 := Z1.lt; have l2 := Nat.lt_succ_of_lt l1; have s1 := hbw1.size; clear hb1)
  refine bodyPost_ret (v := vv n r) (by simp [results, Tryz.results120, go_sem, z1, l1, l2]) rfl ⟨rfl, ?_⟩
  go_grown
set_option maxHeartbeats 400000 in
theorem Bin_4 (n x y q r : Nat) (w : World) (h0 : 1 ≤ n)
    (hC0 : ∀ w, Calls Tryz.prog 130 #[vv n x, vv n y] w (RV w (.tuple #[vv n q, vv n r]))) :
    Calls Tryz.prog 112 #[.int .i64 4, vv n x, vv n y] w (RV w (.tuple #[vv n r, .int .i64 0])) := by
  have hC := fun w => arith_4 n x y q r w hC0
  clear hC0
  replace hC := Lib.hid hC
  go_enter Tryz.func112, Tryz.ntmps112
  go_wp2_with (go_at_call 120; (with_reducible refine (hC.out _).mono ?_); rintro e w1 ⟨rfl, hb1⟩; obtain ⟨hc1, hf1⟩ := bcell hb1)
  have hbw : Below w.heap.size w w1 := below_call hb1 (by go_grown)
  refine bodyPost_ret (v := .tuple #[vv n r, .int .i64 0]) (by simp [results, Tryz.results112, go_sem, hc1]) rfl ⟨rfl, ?_⟩
  clear hb1 hc1 hf1
  go_grown

set_option maxHeartbeats 800000 in
theorem arith_5 (n x y q r : Nat) (w : World)
    (hC : ∀ w, Calls Tryz.prog 131 #[vv n x, vv n y] w (RV w (.tuple #[vv n q, vv n r]))) :
    Calls Tryz.prog 120 #[.int .i64 5, vv n x, vv n y] w (RV w (vv n q)) := by
  replace hC := Lib.hid hC
  go_enter Tryz.func120, Tryz.ntmps120
  go_wp2_with (go_at_call 131; (with_reducible refine (hC.out _).mono ?_); rintro e w1 ⟨rfl, hb1⟩; have Z1 := (HV.zero ((w.alloc (.cells (vcs n x) 106)).alloc (.cells (vcs n y) 106)) 106).over hb1; simp only [World.size_alloc] at Z1; have hbw1 : Below w.heap.size w w1 := below_call hb1 (by go_grown); have z1 := Z1.all; have l1 := Z1.lt; have l2 := Nat.lt_succ_of_lt l1; have s1 := hbw1.size; clear hb1)
  refine bodyPost_ret (v := vv n q) (by simp [results, Tryz.results120, go_sem, z1, l1, l2]) rfl ⟨rfl, ?_⟩
  go_grown
set_option maxHeartbeats 400000 in
theorem Bin_5 (n x y q r : Nat) (w : World) (h0 : 1 ≤ n)
    (hC0 : ∀ w, Calls Tryz.prog 131 #[vv n x, vv n y] w (RV w (.tuple #[vv n q, vv n r]))) :
    Calls Tryz.prog 112 #[.int .i64 5, vv n x, vv n y] w (RV w (.tuple #[vv n q, .int .i64 0])) := by
  have hC := fun w => arith_5 n x y q r w hC0
  clear hC0
  replace hC := Lib.hid hC
  go_enter Tryz.func112, Tryz.ntmps112
  go_wp2_with (go_at_call 120; (with_reducible refine (hC.out _).mono ?_); rintro e w1 ⟨rfl, hb1⟩; obtain ⟨hc1, hf1⟩ := bcell hb1)
  have hbw : Below w.heap.size w w1 := below_call hb1 (by go_grown)
  refine bodyPost_ret (v := .tuple #[vv n q, .int .i64 0]) (by simp [results, Tryz.results112, go_sem, hc1]) rfl ⟨rfl, ?_⟩
  clear hb1 hc1 hf1
  go_grown

set_option maxHeartbeats 800000 in
theorem arith_6 (n x y q r : Nat) (w : World)
    (hC : ∀ w, Calls Tryz.prog 131 #[vv n x, vv n y] w (RV w (.tuple #[vv n q, vv n r]))) :
    Calls Tryz.prog 120 #[.int .i64 6, vv n x, vv n y] w (RV w (vv n r)) := by
  replace hC := Lib.hid hC
  go_enter Tryz.func120, Tryz.ntmps120
  go_wp2_with (go_at_call 131; (with_reducible refine (hC.out _).mono ?_); rintro e w1 ⟨rfl, hb1⟩; have Z1 := (HV.zero ((w.alloc (.cells (vcs n x) 106)).alloc (.cells (vcs n y) 106)) 106).over hb1; simp only [World.size_alloc] at Z1; have hbw1 : Below w.heap.size w w1 := below_call hb1 (by go_grown); have z1 := Z1.all; have l1 := Z1.lt; have l2 := Nat.lt_succ_of_lt l1; have s1 := hbw1.size; clear hb1)
  refine bodyPost_ret (v := vv n r) (by simp [results, Tryz.results120, go_sem, z1, l1, l2]) rfl ⟨rfl, ?_⟩
  go_grown
set_option maxHeartbeats 400000 in
theorem Bin_6 (n x y q r : Nat) (w : World) (h0 : 1 ≤ n)
    (hC0 : ∀ w, Calls Tryz.prog 131 #[vv n x, vv n y] w (RV w (.tuple #[vv n q, vv n r]))) :
    Calls Tryz.prog 112 #[.int .i64 6, vv n x, vv n y] w (RV w (.tuple #[vv n r, .int .i64 0])) := by
  have hC := fun w => arith_6 n x y q r w hC0
  clear hC0
  replace hC := Lib.hid hC
  go_enter Tryz.func112, Tryz.ntmps112
  go_wp2_with (go_at_call 120; (with_reducible refine (hC.out _).mono ?_); rintro e w1 ⟨rfl, hb1⟩; obtain ⟨hc1, hf1⟩ := bcell hb1)
  have hbw : Below w.heap.size w w1 := below_call hb1 (by go_grown)
  refine bodyPost_ret (v := .tuple #[vv n r, .int .i64 0]) (by simp [results, Tryz.results112, go_sem, hc1]) rfl ⟨rfl, ?_⟩
  clear hb1 hc1 hf1
  go_grown

end Go.Proofs.YtdjaikglkgabdaaGreatDoor
