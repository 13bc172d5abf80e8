/-
  The walks of the reference's Bin: sums, products, divisions, shifts, comparisons.
-/
import Derived.Test.YtmgkidfikikjpaaBc
namespace Go.Proofs.Ytmgkidfikikjpaa
open Go.RowKit
theorem minus_sum (x y n : Nat) (_ : x < 2 ^ n) (hy : y < 2 ^ n) : (x + (2 ^ n - 1 - y) + true.toNat) % 2 ^ n = (x + 2 ^ n - y) % 2 ^ n := by
  have e : x + (2 ^ n - 1 - y) + true.toNat = x + 2 ^ n - y := by simp; omega
  rw [e]
theorem sarN_lt2 (n x k : Nat) (hx : x < 2 ^ n) : sarN n x k < 2 ^ n := by
  have := Nat.two_pow_pos n
  unfold sarN
  split
  · exact Nat.lt_of_le_of_lt (Nat.sub_le _ _) (by omega)
  · exact Nat.lt_of_le_of_lt (Nat.div_le_self _ _) hx
theorem refEqual_num (n c1 c2 x y : Nat) (A B : Option Addr) (w : World) (hn : n ≤ 128) (hA : RB w A n (tb x)) (hB : RB w B n (tb y)) (hx : x < 2 ^ n) (hy : y < 2 ^ n) :
    Calls Try.prog 22 #[.slice A n c1, .slice B n c2] w (RV w (.bool (eqB n x n y))) := by
  have h := refEqual_ok n c1 c2 A B (tb x) (tb y) w (by omega) hA hB
  rw [valB_tbl x n hx, valB_tbl y n hy] at h
  have e : decide (x = y) = eqB n x n y := by unfold eqB; rw [Bool.eq_iff_iff]; simp
  rw [e] at h
  exact h
theorem refLess_num (n c1 c2 x y : Nat) (A B : Option Addr) (w : World) (hn : n ≤ 128) (hA : RB w A n (tb x)) (hB : RB w B n (tb y)) (hx : x < 2 ^ n) (hy : y < 2 ^ n) :
    Calls Try.prog 41 #[.slice A n c1, .slice B n c2] w (RV w (.bool (decide (x < y)))) := by
  have h := refLess_ok n c1 c2 A B (tb x) (tb y) w (by omega) hA hB
  rw [valB_tbl x n hx, valB_tbl y n hy] at h
  exact h
theorem refSplit_num (n c1 c2 x y : Nat) (A B : Option Addr) (w : World) (_ : 1 ≤ n) (hn : n ≤ 128) (hA : RB w A n (tb x)) (hB : RB w B n (tb y)) (hx : x < 2 ^ n) (hy : y < 2 ^ n) :
    Calls Try.prog 36 #[.slice A n c1, .slice B n c2] w (SP w n (qU n x y) (rU x y)) := by
  unfold qU rU
  by_cases h : y = 0
  · have k := refSplit_zero n c1 c2 A B (tb x) (tb y) w hn hA hB (by rw [valB_tbl y n hy]; exact h)
    rw [valB_tbl x n hx] at k
    simp only [h, if_true]
    exact k
  · simp only [h, if_false]
    exact refSplit_pos n c1 c2 x y A B w hn hA hB hx hy (by omega)
theorem refSigned_num (n c1 c2 x y : Nat) (A B : Option Addr) (w : World) (h1 : 1 ≤ n) (hn : n ≤ 128) (hA : RB w A n (tb x)) (hB : RB w B n (tb y)) (hx : x < 2 ^ n) (hy : y < 2 ^ n) :
    Calls Try.prog 37 #[.slice A n c1, .slice B n c2] w (SP w n (qS n x y) (rS n x y)) := by
  unfold qS rS
  by_cases h : y = 0
  · have k := refSigned_zero n c1 c2 A B (tb x) (tb y) w hn hA hB (by rw [valB_tbl y n hy]; exact h)
    rw [valB_tbl x n hx] at k
    simp only [h, if_true]
    exact k
  · simp only [h, if_false]
    unfold sdivN sremN magN sgnN
    have h0 : 0 < y := by omega
    cases sx : x.testBit (n - 1) <;> cases sy : y.testBit (n - 1)
    · exact refSigned_ff n c1 c2 x y A B w h1 hn hA hB hx hy h0 sx sy
    · exact refSigned_ft n c1 c2 x y A B w h1 hn hA hB hx hy h0 sx sy
    · exact refSigned_tf n c1 c2 x y A B w h1 hn hA hB hx hy h0 sx sy
    · exact refSigned_tt n c1 c2 x y A B w h1 hn hA hB hx hy h0 sx sy
set_option maxRecDepth 1000000 in
set_option maxHeartbeats 2000000 in
theorem refBin_0 (n c1 c2 x y : Nat) (A B : Option Addr) (w : World) (h1 : 1 ≤ n) (hn : n ≤ 128) (hA : RB w A n (tb x)) (hB : RB w B n (tb y)) (hx : x < 2 ^ n) (hy : y < 2 ^ n) :
    Calls Try.prog 10 #[.int .i64 0, .slice A n c1, .slice B n c2] w (LN w n ((x + y) % 2 ^ n) 0) := by
  have hmk := run_make_row' 22 4 (.bool false) 1 Try.underlying22 info_bool rfl .i64 .i64 n (by omega) (by omega)
  have cM := fun w (h : RB w B n (tb y)) => refNum_nat n c2 n (by omega) B (tb y) w (by omega) h
  rw [valB_tbl y n hy] at cM
  replace cM := Lib.hid cM
  have n1 : ((n : Int) != (n : Int)) = false := by simp
  have n0 : ((n : Int) == 0) = false := by simp; omega
  have cP := Lib.hid (fun w (h : RB w A n (tb x)) (h2 : RB w B n (tb y)) => (refPlus_ok n c1 n c2 A B (tb x) (tb y) false w (by omega) (Nat.le_refl _) h h2).mono fun e w' g => g.num (x := (x + y) % 2 ^ n) (by rw [plus_val, valB_tbl x n hx, valB_tbl y n hy, Nat.mod_mod]; rfl))
  replace hA := Lib.hid hA
  replace hB := Lib.hid hB
  go_enter Try.func10, Try.ntmps10
  go_wp2_with fail
  (with_reducible refine (cM.out _ (hB.out.keep (by go_grown))).mono ?_)
  rintro e w0 ⟨rfl, rfl⟩
  obtain ⟨W, hW⟩ : ∃ W, w.alloc (.cells (madeCells #[.bool false] n) 4) = W := ⟨_, rfl⟩
  have hbw0 : Below w.heap.size w W := by rw [← hW]; go_grown
  rw [hW]
  have HA := hA.out.keep hbw0
  have HB := hB.out.keep hbw0
  clear hmk
  replace hW := Lib.hid hW
  go_wp2_with fail
  (with_reducible refine (cP.out _ HA HB).mono ?_)
  rintro e w1 ⟨A1, d1, rfl, R1, hb1⟩
  have hbw1 : Below w.heap.size w w1 := below_call hb1 hbw0
  go_wp2_with fail
  go_ret2
  exact ⟨_, _, rfl, R1, hbw1⟩
set_option maxRecDepth 1000000 in
set_option maxHeartbeats 2000000 in
theorem refBin_1 (n c1 c2 x y : Nat) (A B : Option Addr) (w : World) (h1 : 1 ≤ n) (hn : n ≤ 128) (hA : RB w A n (tb x)) (hB : RB w B n (tb y)) (hx : x < 2 ^ n) (hy : y < 2 ^ n) :
    Calls Try.prog 10 #[.int .i64 1, .slice A n c1, .slice B n c2] w (LN w n ((x + 2 ^ n - y) % 2 ^ n) 0) := by
  have hmk := run_make_row' 22 4 (.bool false) 1 Try.underlying22 info_bool rfl .i64 .i64 n (by omega) (by omega)
  have cM := fun w (h : RB w B n (tb y)) => refNum_nat n c2 n (by omega) B (tb y) w (by omega) h
  rw [valB_tbl y n hy] at cM
  replace cM := Lib.hid cM
  have n1 : ((n : Int) != (n : Int)) = false := by simp
  have n0 : ((n : Int) == 0) = false := by simp; omega
  have cN := Lib.hid (fun w (h2 : RB w B n (tb y)) => refNot_ok n c2 B (tb y) w (by omega) h2)
  have e1 := minus_sum x y n hx hy
  have cP := Lib.hid (fun w A2 d2 (h : RB w A n (tb x)) (h2 : RB w A2 n (fun j => !tb y j)) => (refPlus_ok n c1 n d2 A A2 (tb x) (fun j => !tb y j) true w (by omega) (Nat.le_refl _) h h2).mono fun e w' g => g.num (x := (x + 2 ^ n - y) % 2 ^ n) (by rw [plus_val, not_val, valB_tbl x n hx, valB_tbl y n hy, Nat.mod_mod]; exact e1))
  replace e1 := Lib.hid e1
  replace hA := Lib.hid hA
  replace hB := Lib.hid hB
  go_enter Try.func10, Try.ntmps10
  go_wp2_with fail
  (with_reducible refine (cM.out _ (hB.out.keep (by go_grown))).mono ?_)
  rintro e w0 ⟨rfl, rfl⟩
  obtain ⟨W, hW⟩ : ∃ W, w.alloc (.cells (madeCells #[.bool false] n) 4) = W := ⟨_, rfl⟩
  have hbw0 : Below w.heap.size w W := by rw [← hW]; go_grown
  rw [hW]
  have HA := hA.out.keep hbw0
  have HB := hB.out.keep hbw0
  clear hmk
  replace hW := Lib.hid hW
  go_wp2_with fail
  (with_reducible refine (cN.out _ HB).mono ?_)
  rintro e w1 ⟨A2, d2, rfl, R2, hb1⟩
  have hbw1 : Below w.heap.size w w1 := below_call hb1 hbw0
  go_wp2_with fail
  (with_reducible refine (cP.out _ _ _ (hA.out.keep hbw1) R2).mono ?_)
  rintro e w2 ⟨A1, d1, rfl, R1, hb2⟩
  have hbw2 : Below w.heap.size w w2 := below_call hb2 hbw1
  go_wp2_with fail
  go_ret2
  exact ⟨_, _, rfl, R1, hbw2⟩
set_option maxRecDepth 1000000 in
set_option maxHeartbeats 2000000 in
theorem refBin_2 (n c1 c2 x y : Nat) (A B : Option Addr) (w : World) (h1 : 1 ≤ n) (hn : n ≤ 128) (hA : RB w A n (tb x)) (hB : RB w B n (tb y)) (hx : x < 2 ^ n) (hy : y < 2 ^ n) :
    Calls Try.prog 10 #[.int .i64 2, .slice A n c1, .slice B n c2] w (LN w n (x * y % 2 ^ n) 0) := by
  have hmk := run_make_row' 22 4 (.bool false) 1 Try.underlying22 info_bool rfl .i64 .i64 n (by omega) (by omega)
  have cM := fun w (h : RB w B n (tb y)) => refNum_nat n c2 n (by omega) B (tb y) w (by omega) h
  rw [valB_tbl y n hy] at cM
  replace cM := Lib.hid cM
  have n1 : ((n : Int) != (n : Int)) = false := by simp
  have n0 : ((n : Int) == 0) = false := by simp; omega
  have cP := fun w (h : RB w A n (tb x)) (h2 : RB w B n (tb y)) => refTimes_ok n c1 c2 A B (tb x) (tb y) w (by omega) h h2
  rw [valB_tbl x n hx, valB_tbl y n hy] at cP
  have cQ := Lib.hid (fun w (h : RB w A n (tb x)) (h2 : RB w B n (tb y)) => (cP w h h2).mono fun e w' g => (show GN w n (x * y % 2 ^ n) e w' from by obtain ⟨h, hv, g⟩ := g; exact g.num (by rw [hv, Nat.mod_mod])))
  clear cP
  replace hA := Lib.hid hA
  replace hB := Lib.hid hB
  go_enter Try.func10, Try.ntmps10
  go_wp2_with fail
  (with_reducible refine (cM.out _ (hB.out.keep (by go_grown))).mono ?_)
  rintro e w0 ⟨rfl, rfl⟩
  obtain ⟨W, hW⟩ : ∃ W, w.alloc (.cells (madeCells #[.bool false] n) 4) = W := ⟨_, rfl⟩
  have hbw0 : Below w.heap.size w W := by rw [← hW]; go_grown
  rw [hW]
  have HA := hA.out.keep hbw0
  have HB := hB.out.keep hbw0
  clear hmk
  replace hW := Lib.hid hW
  go_wp2_with fail
  (with_reducible refine (cQ.out _ HA HB).mono ?_)
  rintro e w1 ⟨A1, d1, rfl, R1, hb1⟩
  have hbw1 : Below w.heap.size w w1 := below_call hb1 hbw0
  go_wp2_with fail
  go_ret2
  exact ⟨_, _, rfl, R1, hbw1⟩
set_option maxRecDepth 1000000 in
set_option maxHeartbeats 2000000 in
theorem refBin_3 (n c1 c2 x y : Nat) (A B : Option Addr) (w : World) (h1 : 1 ≤ n) (hn : n ≤ 128) (hA : RB w A n (tb x)) (hB : RB w B n (tb y)) (hx : x < 2 ^ n) (hy : y < 2 ^ n) :
    Calls Try.prog 10 #[.int .i64 3, .slice A n c1, .slice B n c2] w (LN w n (qU n x y) 0) := by
  have hmk := run_make_row' 22 4 (.bool false) 1 Try.underlying22 info_bool rfl .i64 .i64 n (by omega) (by omega)
  have cM := fun w (h : RB w B n (tb y)) => refNum_nat n c2 n (by omega) B (tb y) w (by omega) h
  rw [valB_tbl y n hy] at cM
  replace cM := Lib.hid cM
  have n1 : ((n : Int) != (n : Int)) = false := by simp
  have n0 : ((n : Int) == 0) = false := by simp; omega
  have cP := Lib.hid (fun w (h : RB w A n (tb x)) (h2 : RB w B n (tb y)) => refSplit_num n c1 c2 x y A B w h1 hn h h2 hx hy)
  replace hA := Lib.hid hA
  replace hB := Lib.hid hB
  generalize (qU n x y) = q0 at *
  generalize (rU x y) = r0 at *
  go_enter Try.func10, Try.ntmps10
  go_wp2_with fail
  (with_reducible refine (cM.out _ (hB.out.keep (by go_grown))).mono ?_)
  rintro e w0 ⟨rfl, rfl⟩
  obtain ⟨W, hW⟩ : ∃ W, w.alloc (.cells (madeCells #[.bool false] n) 4) = W := ⟨_, rfl⟩
  have hbw0 : Below w.heap.size w W := by rw [← hW]; go_grown
  rw [hW]
  have HA := hA.out.keep hbw0
  have HB := hB.out.keep hbw0
  clear hmk
  replace hW := Lib.hid hW
  go_wp2_with fail
  (with_reducible refine (cP.out _ HA HB).mono ?_)
  rintro e w1 ⟨A1, d1, A2, d2, rfl, R1, R2, hb1⟩
  have hbw1 : Below w.heap.size w w1 := below_call hb1 hbw0
  clear hb1 hbw0
  replace R1 := Lib.hid R1
  go_wp2_with fail
  go_ret2
  exact ⟨_, _, rfl, R1.out, hbw1⟩
set_option maxRecDepth 1000000 in
set_option maxHeartbeats 2000000 in
theorem refBin_4 (n c1 c2 x y : Nat) (A B : Option Addr) (w : World) (h1 : 1 ≤ n) (hn : n ≤ 128) (hA : RB w A n (tb x)) (hB : RB w B n (tb y)) (hx : x < 2 ^ n) (hy : y < 2 ^ n) :
    Calls Try.prog 10 #[.int .i64 4, .slice A n c1, .slice B n c2] w (LN w n (rU x y) 0) := by
  have hmk := run_make_row' 22 4 (.bool false) 1 Try.underlying22 info_bool rfl .i64 .i64 n (by omega) (by omega)
  have cM := fun w (h : RB w B n (tb y)) => refNum_nat n c2 n (by omega) B (tb y) w (by omega) h
  rw [valB_tbl y n hy] at cM
  replace cM := Lib.hid cM
  have n1 : ((n : Int) != (n : Int)) = false := by simp
  have n0 : ((n : Int) == 0) = false := by simp; omega
  obtain ⟨i0, hi, hz0, hz1, hz2⟩ := info_parts info_bool
  have cP := Lib.hid (fun w (h : RB w A n (tb x)) (h2 : RB w B n (tb y)) => refSplit_num n c1 c2 x y A B w h1 hn h h2 hx hy)
  replace hA := Lib.hid hA
  replace hB := Lib.hid hB
  generalize (qU n x y) = q0 at *
  generalize (rU x y) = r0 at *
  go_enter Try.func10, Try.ntmps10
  go_wp2_with fail
  (with_reducible refine (cM.out _ (hB.out.keep (by go_grown))).mono ?_)
  rintro e w0 ⟨rfl, rfl⟩
  obtain ⟨W, hW⟩ : ∃ W, w.alloc (.cells (madeCells #[.bool false] n) 4) = W := ⟨_, rfl⟩
  have hbw0 : Below w.heap.size w W := by rw [← hW]; go_grown
  rw [hW]
  have HA := hA.out.keep hbw0
  have HB := hB.out.keep hbw0
  clear hmk
  replace hW := Lib.hid hW
  go_wp2_with fail
  (with_reducible refine (cP.out _ HA HB).mono ?_)
  rintro e w1 ⟨A1, d1, A2, d2, rfl, R1, R2, hb1⟩
  have hbw1 : Below w.heap.size w w1 := below_call hb1 hbw0
  clear hb1 hbw0
  obtain ⟨bm, om, rfl, hbm, hcm⟩ := R2 (by omega)
  replace hcm := Lib.hid hcm
  clear R1 R2 HA HB
  go_wp2_with (at_builtin; refine wpList_append_lies _ rfl _ _ 22 rfl w1.heap.size 4 i0 (.bool false) 1 1 Try.underlying22 hi hz0 hz1 hz2 rfl (by decide) _ _ _ rfl (World.ownsRow_made (base := w1.heap.size) w1 #[] 0 (Nat.le_refl _) (by decide) (by simp)) ⟨bm, om, none⟩ n _ (bcs (tb r0) n) rfl ?c0 ?c1 ?c2 (by omega) ?c3 ?c4 ?c5 (w1.heap.size + 1) (by simp) ?c6)
  case c0 => rw [bcs_len, Nat.mul_one]
  case c1 => exact bcs_cells hcm.out (by go_grown)
  case c2 => exact bcs_one (tb r0) n
  case c3 => unfold maxLen; omega
  case c4 => omega
  case c5 => rw [World.size_alloc]; omega
  case c6 =>
    intro g' cap' w2 hown1 hgrow hat hlt1
    have hbw2 : Below w.heap.size w w2 := below_call (((Below.refl _ w1).alloc (Nat.le_refl _) _).grown hgrow (by simp) (fun j e => by cases e; exact Nat.le_refl _)) hbw1
    try simp only [Nat.zero_add, List.nil_append] at hown1
    obtain ⟨g2, cap2, e2, hR⟩ := ownB_form hown1 (by omega)
    cases e2
    replace hR := Lib.hid hR
    clear hown1 hgrow hat hlt1
    go_wp2_with fail
    go_ret2
    exact ⟨_, cap', rfl, hR.out, hbw2⟩
set_option maxRecDepth 1000000 in
set_option maxHeartbeats 2000000 in
theorem refBin_5 (n c1 c2 x y : Nat) (A B : Option Addr) (w : World) (h1 : 1 ≤ n) (hn : n ≤ 128) (hA : RB w A n (tb x)) (hB : RB w B n (tb y)) (hx : x < 2 ^ n) (hy : y < 2 ^ n) :
    Calls Try.prog 10 #[.int .i64 5, .slice A n c1, .slice B n c2] w (LN w n (qS n x y) 0) := by
  have hmk := run_make_row' 22 4 (.bool false) 1 Try.underlying22 info_bool rfl .i64 .i64 n (by omega) (by omega)
  have cM := fun w (h : RB w B n (tb y)) => refNum_nat n c2 n (by omega) B (tb y) w (by omega) h
  rw [valB_tbl y n hy] at cM
  replace cM := Lib.hid cM
  have n1 : ((n : Int) != (n : Int)) = false := by simp
  have n0 : ((n : Int) == 0) = false := by simp; omega
  have cP := Lib.hid (fun w (h : RB w A n (tb x)) (h2 : RB w B n (tb y)) => refSigned_num n c1 c2 x y A B w h1 hn h h2 hx hy)
  replace hA := Lib.hid hA
  replace hB := Lib.hid hB
  generalize (qS n x y) = q0 at *
  generalize (rS n x y) = r0 at *
  go_enter Try.func10, Try.ntmps10
  go_wp2_with fail
  (with_reducible refine (cM.out _ (hB.out.keep (by go_grown))).mono ?_)
  rintro e w0 ⟨rfl, rfl⟩
  obtain ⟨W, hW⟩ : ∃ W, w.alloc (.cells (madeCells #[.bool false] n) 4) = W := ⟨_, rfl⟩
  have hbw0 : Below w.heap.size w W := by rw [← hW]; go_grown
  rw [hW]
  have HA := hA.out.keep hbw0
  have HB := hB.out.keep hbw0
  clear hmk
  replace hW := Lib.hid hW
  go_wp2_with fail
  (with_reducible refine (cP.out _ HA HB).mono ?_)
  rintro e w1 ⟨A1, d1, A2, d2, rfl, R1, R2, hb1⟩
  have hbw1 : Below w.heap.size w w1 := below_call hb1 hbw0
  clear hb1 hbw0
  replace R1 := Lib.hid R1
  go_wp2_with fail
  go_ret2
  exact ⟨_, _, rfl, R1.out, hbw1⟩
set_option maxRecDepth 1000000 in
set_option maxHeartbeats 2000000 in
theorem refBin_6 (n c1 c2 x y : Nat) (A B : Option Addr) (w : World) (h1 : 1 ≤ n) (hn : n ≤ 128) (hA : RB w A n (tb x)) (hB : RB w B n (tb y)) (hx : x < 2 ^ n) (hy : y < 2 ^ n) :
    Calls Try.prog 10 #[.int .i64 6, .slice A n c1, .slice B n c2] w (LN w n (rS n x y) 0) := by
  have hmk := run_make_row' 22 4 (.bool false) 1 Try.underlying22 info_bool rfl .i64 .i64 n (by omega) (by omega)
  have cM := fun w (h : RB w B n (tb y)) => refNum_nat n c2 n (by omega) B (tb y) w (by omega) h
  rw [valB_tbl y n hy] at cM
  replace cM := Lib.hid cM
  have n1 : ((n : Int) != (n : Int)) = false := by simp
  have n0 : ((n : Int) == 0) = false := by simp; omega
  obtain ⟨i0, hi, hz0, hz1, hz2⟩ := info_parts info_bool
  have cP := Lib.hid (fun w (h : RB w A n (tb x)) (h2 : RB w B n (tb y)) => refSigned_num n c1 c2 x y A B w h1 hn h h2 hx hy)
  replace hA := Lib.hid hA
  replace hB := Lib.hid hB
  generalize (qS n x y) = q0 at *
  generalize (rS n x y) = r0 at *
  go_enter Try.func10, Try.ntmps10
  go_wp2_with fail
  (with_reducible refine (cM.out _ (hB.out.keep (by go_grown))).mono ?_)
  rintro e w0 ⟨rfl, rfl⟩
  obtain ⟨W, hW⟩ : ∃ W, w.alloc (.cells (madeCells #[.bool false] n) 4) = W := ⟨_, rfl⟩
  have hbw0 : Below w.heap.size w W := by rw [← hW]; go_grown
  rw [hW]
  have HA := hA.out.keep hbw0
  have HB := hB.out.keep hbw0
  clear hmk
  replace hW := Lib.hid hW
  go_wp2_with fail
  (with_reducible refine (cP.out _ HA HB).mono ?_)
  rintro e w1 ⟨A1, d1, A2, d2, rfl, R1, R2, hb1⟩
  have hbw1 : Below w.heap.size w w1 := below_call hb1 hbw0
  clear hb1 hbw0
  obtain ⟨bm, om, rfl, hbm, hcm⟩ := R2 (by omega)
  replace hcm := Lib.hid hcm
  clear R1 R2 HA HB
  go_wp2_with (at_builtin; refine wpList_append_lies _ rfl _ _ 22 rfl w1.heap.size 4 i0 (.bool false) 1 1 Try.underlying22 hi hz0 hz1 hz2 rfl (by decide) _ _ _ rfl (World.ownsRow_made (base := w1.heap.size) w1 #[] 0 (Nat.le_refl _) (by decide) (by simp)) ⟨bm, om, none⟩ n _ (bcs (tb r0) n) rfl ?c0 ?c1 ?c2 (by omega) ?c3 ?c4 ?c5 (w1.heap.size + 1) (by simp) ?c6)
  case c0 => rw [bcs_len, Nat.mul_one]
  case c1 => exact bcs_cells hcm.out (by go_grown)
  case c2 => exact bcs_one (tb r0) n
  case c3 => unfold maxLen; omega
  case c4 => omega
  case c5 => rw [World.size_alloc]; omega
  case c6 =>
    intro g' cap' w2 hown1 hgrow hat hlt1
    have hbw2 : Below w.heap.size w w2 := below_call (((Below.refl _ w1).alloc (Nat.le_refl _) _).grown hgrow (by simp) (fun j e => by cases e; exact Nat.le_refl _)) hbw1
    try simp only [Nat.zero_add, List.nil_append] at hown1
    obtain ⟨g2, cap2, e2, hR⟩ := ownB_form hown1 (by omega)
    cases e2
    replace hR := Lib.hid hR
    clear hown1 hgrow hat hlt1
    go_wp2_with fail
    go_ret2
    exact ⟨_, cap', rfl, hR.out, hbw2⟩
set_option maxRecDepth 1000000 in
set_option maxHeartbeats 2000000 in
theorem refBin_10 (n c1 c2 x y : Nat) (A B : Option Addr) (w : World) (h1 : 1 ≤ n) (hn : n ≤ 128) (hA : RB w A n (tb x)) (hB : RB w B n (tb y)) (hx : x < 2 ^ n) (hy : y < 2 ^ n) :
    Calls Try.prog 10 #[.int .i64 10, .slice A n c1, .slice B n c2] w (LN w n (x * 2 ^ min y n % 2 ^ n) 0) := by
  have hmk := run_make_row' 22 4 (.bool false) 1 Try.underlying22 info_bool rfl .i64 .i64 n (by omega) (by omega)
  have cM := fun w (h : RB w B n (tb y)) => refNum_nat n c2 n (by omega) B (tb y) w (by omega) h
  rw [valB_tbl y n hy] at cM
  replace cM := Lib.hid cM
  have n1 : ((n : Int) != (n : Int)) = false := by simp
  have n0 : ((n : Int) == 0) = false := by simp; omega
  have hk : min y n ≤ 128 := by omega
  have cP := Lib.hid (fun w (h : RB w A n (tb x)) => (refMove_ok n c1 A (tb x) ((min y n : Nat) : Int) false w (by omega) (by omega) (by omega) h).mono fun e w' g => g.num (x := x * 2 ^ min y n % 2 ^ n) (by rw [mv_up, valB_tbl x n hx, Nat.mod_mod]))
  replace hA := Lib.hid hA
  replace hB := Lib.hid hB
  generalize min y n = k at *
  go_enter Try.func10, Try.ntmps10
  go_wp2_with fail
  (with_reducible refine (cM.out _ (hB.out.keep (by go_grown))).mono ?_)
  rintro e w0 ⟨rfl, rfl⟩
  obtain ⟨W, hW⟩ : ∃ W, w.alloc (.cells (madeCells #[.bool false] n) 4) = W := ⟨_, rfl⟩
  have hbw0 : Below w.heap.size w W := by rw [← hW]; go_grown
  rw [hW]
  have HA := hA.out.keep hbw0
  have HB := hB.out.keep hbw0
  clear hmk
  replace hW := Lib.hid hW
  go_wp2_with fail
  (with_reducible refine (cP.out _ HA).mono ?_)
  rintro e w1 ⟨A1, d1, rfl, R1, hb1⟩
  have hbw1 : Below w.heap.size w w1 := below_call hb1 hbw0
  go_wp2_with fail
  go_ret2
  exact ⟨_, _, rfl, R1, hbw1⟩
set_option maxRecDepth 1000000 in
set_option maxHeartbeats 2000000 in
theorem refBin_11 (n c1 c2 x y : Nat) (A B : Option Addr) (w : World) (h1 : 1 ≤ n) (hn : n ≤ 128) (hA : RB w A n (tb x)) (hB : RB w B n (tb y)) (hx : x < 2 ^ n) (hy : y < 2 ^ n) :
    Calls Try.prog 10 #[.int .i64 11, .slice A n c1, .slice B n c2] w (LN w n (x / 2 ^ min y n) 0) := by
  have hmk := run_make_row' 22 4 (.bool false) 1 Try.underlying22 info_bool rfl .i64 .i64 n (by omega) (by omega)
  have cM := fun w (h : RB w B n (tb y)) => refNum_nat n c2 n (by omega) B (tb y) w (by omega) h
  rw [valB_tbl y n hy] at cM
  replace cM := Lib.hid cM
  have n1 : ((n : Int) != (n : Int)) = false := by simp
  have n0 : ((n : Int) == 0) = false := by simp; omega
  have hk : min y n ≤ 128 := by omega
  have cP := Lib.hid (fun w (h : RB w A n (tb x)) => (refMove_ok n c1 A (tb x) (-((min y n : Nat) : Int)) false w (by omega) (by omega) (by omega) h).mono fun e w' g => g.num (x := x / 2 ^ min y n) (by rw [mv_down, valB_tbl x n hx, Nat.mod_eq_of_lt (Nat.lt_of_le_of_lt (Nat.div_le_self _ _) hx)]))
  replace hA := Lib.hid hA
  replace hB := Lib.hid hB
  generalize min y n = k at *
  go_enter Try.func10, Try.ntmps10
  go_wp2_with fail
  (with_reducible refine (cM.out _ (hB.out.keep (by go_grown))).mono ?_)
  rintro e w0 ⟨rfl, rfl⟩
  obtain ⟨W, hW⟩ : ∃ W, w.alloc (.cells (madeCells #[.bool false] n) 4) = W := ⟨_, rfl⟩
  have hbw0 : Below w.heap.size w W := by rw [← hW]; go_grown
  rw [hW]
  have HA := hA.out.keep hbw0
  have HB := hB.out.keep hbw0
  clear hmk
  replace hW := Lib.hid hW
  go_wp2_with fail
  (with_reducible refine (cP.out _ HA).mono ?_)
  rintro e w1 ⟨A1, d1, rfl, R1, hb1⟩
  have hbw1 : Below w.heap.size w w1 := below_call hb1 hbw0
  go_wp2_with fail
  go_ret2
  exact ⟨_, _, rfl, R1, hbw1⟩
set_option maxRecDepth 1000000 in
set_option maxHeartbeats 2000000 in
theorem refBin_12 (n c1 c2 x y : Nat) (A B : Option Addr) (w : World) (h1 : 1 ≤ n) (hn : n ≤ 128) (hA : RB w A n (tb x)) (hB : RB w B n (tb y)) (hx : x < 2 ^ n) (hy : y < 2 ^ n) :
    Calls Try.prog 10 #[.int .i64 12, .slice A n c1, .slice B n c2] w (LN w n (sarN n x (min y n)) 0) := by
  have hmk := run_make_row' 22 4 (.bool false) 1 Try.underlying22 info_bool rfl .i64 .i64 n (by omega) (by omega)
  have cM := fun w (h : RB w B n (tb y)) => refNum_nat n c2 n (by omega) B (tb y) w (by omega) h
  rw [valB_tbl y n hy] at cM
  replace cM := Lib.hid cM
  have n1 : ((n : Int) != (n : Int)) = false := by simp
  have n0 : ((n : Int) == 0) = false := by simp; omega
  have hk : min y n ≤ 128 := by omega
  have tA := Lib.hid (fun w (h : RB w A n (tb x)) => refTop_num n c1 x A w h1 (by omega) h)
  have sl := sarN_lt2 n x (min y n) hx
  have cP := Lib.hid (fun w (h : RB w A n (tb x)) => (refMove_ok n c1 A (tb x) (-((min y n : Nat) : Int)) (x.testBit (n - 1)) w (by omega) (by omega) (by omega) h).mono fun e w' g => g.num (x := sarN n x (min y n)) (by rw [show x.testBit (n - 1) = tb x (n - 1) from rfl, mv_sar _ _ _ h1, valB_tbl x n hx, Nat.mod_eq_of_lt sl]))
  clear sl
  replace hA := Lib.hid hA
  replace hB := Lib.hid hB
  generalize hsv : sarN n x (min y n) = sv at *
  replace hsv := Lib.hid hsv
  generalize min y n = k at *
  generalize x.testBit (n - 1) = tx at *
  go_enter Try.func10, Try.ntmps10
  go_wp2_with fail
  (with_reducible refine (cM.out _ (hB.out.keep (by go_grown))).mono ?_)
  rintro e w0 ⟨rfl, rfl⟩
  obtain ⟨W, hW⟩ : ∃ W, w.alloc (.cells (madeCells #[.bool false] n) 4) = W := ⟨_, rfl⟩
  have hbw0 : Below w.heap.size w W := by rw [← hW]; go_grown
  rw [hW]
  have HA := hA.out.keep hbw0
  have HB := hB.out.keep hbw0
  clear hmk
  replace hW := Lib.hid hW
  go_wp2_with fail
  (with_reducible refine (tA.out _ HA).mono ?_)
  rintro e w0 ⟨rfl, rfl⟩
  go_wp2_with fail
  (with_reducible refine (cP.out _ HA).mono ?_)
  rintro e w1 ⟨A1, d1, rfl, R1, hb1⟩
  have hbw1 : Below w.heap.size w w1 := below_call hb1 hbw0
  go_wp2_with fail
  go_ret2
  exact ⟨_, _, rfl, R1, hbw1⟩
set_option maxRecDepth 1000000 in
set_option maxHeartbeats 2000000 in
theorem refBin_13 (n c1 c2 x y : Nat) (A B : Option Addr) (w : World) (h1 : 1 ≤ n) (hn : n ≤ 128) (hA : RB w A n (tb x)) (hB : RB w B n (tb y)) (hx : x < 2 ^ n) (hy : y < 2 ^ n) :
    Calls Try.prog 10 #[.int .i64 13, .slice A n c1, .slice B n c2] w (LN w 1 (eqB n x n y).toNat 0) := by
  have hmk := run_make_row' 22 4 (.bool false) 1 Try.underlying22 info_bool rfl .i64 .i64 n (by omega) (by omega)
  have cM := fun w (h : RB w B n (tb y)) => refNum_nat n c2 n (by omega) B (tb y) w (by omega) h
  rw [valB_tbl y n hy] at cM
  replace cM := Lib.hid cM
  have n1 : ((n : Int) != (n : Int)) = false := by simp
  have n0 : ((n : Int) == 0) = false := by simp; omega
  have cP := Lib.hid (fun w (h : RB w A n (tb x)) (h2 : RB w B n (tb y)) => refEqual_num n c1 c2 x y A B w hn h h2 hx hy)
  have cO := Lib.hid (fun w b => (refOne_ok b w).mono fun e w' g => g.num (x := b.toNat) (by cases b <;> rfl))
  replace hA := Lib.hid hA
  replace hB := Lib.hid hB
  generalize eqB n x n y = bb at *
  go_enter Try.func10, Try.ntmps10
  go_wp2_with fail
  (with_reducible refine (cM.out _ (hB.out.keep (by go_grown))).mono ?_)
  rintro e w0 ⟨rfl, rfl⟩
  obtain ⟨W, hW⟩ : ∃ W, w.alloc (.cells (madeCells #[.bool false] n) 4) = W := ⟨_, rfl⟩
  have hbw0 : Below w.heap.size w W := by rw [← hW]; go_grown
  rw [hW]
  have HA := hA.out.keep hbw0
  have HB := hB.out.keep hbw0
  clear hmk
  replace hW := Lib.hid hW
  go_wp2_with fail
  (with_reducible refine (cP.out _ HA HB).mono ?_)
  rintro e w1 ⟨rfl, hb1⟩
  have hbw1 : Below w.heap.size w w1 := below_call hb1 hbw0
  go_wp2_with fail
  (with_reducible refine (cO.out _ _).mono ?_)
  rintro e w2 ⟨A1, d1, rfl, R1, hb2⟩
  have hbw2 : Below w.heap.size w w2 := below_call hb2 hbw1
  go_wp2_with fail
  go_ret2
  exact ⟨_, _, rfl, R1, hbw2⟩
set_option maxRecDepth 1000000 in
set_option maxHeartbeats 2000000 in
theorem refBin_14 (n c1 c2 x y : Nat) (A B : Option Addr) (w : World) (h1 : 1 ≤ n) (hn : n ≤ 128) (hA : RB w A n (tb x)) (hB : RB w B n (tb y)) (hx : x < 2 ^ n) (hy : y < 2 ^ n) :
    Calls Try.prog 10 #[.int .i64 14, .slice A n c1, .slice B n c2] w (LN w 1 (!eqB n x n y).toNat 0) := by
  have hmk := run_make_row' 22 4 (.bool false) 1 Try.underlying22 info_bool rfl .i64 .i64 n (by omega) (by omega)
  have cM := fun w (h : RB w B n (tb y)) => refNum_nat n c2 n (by omega) B (tb y) w (by omega) h
  rw [valB_tbl y n hy] at cM
  replace cM := Lib.hid cM
  have n1 : ((n : Int) != (n : Int)) = false := by simp
  have n0 : ((n : Int) == 0) = false := by simp; omega
  have cP := Lib.hid (fun w (h : RB w A n (tb x)) (h2 : RB w B n (tb y)) => refEqual_num n c1 c2 x y A B w hn h h2 hx hy)
  have cO := Lib.hid (fun w b => (refOne_ok b w).mono fun e w' g => g.num (x := b.toNat) (by cases b <;> rfl))
  replace hA := Lib.hid hA
  replace hB := Lib.hid hB
  generalize eqB n x n y = bb at *
  go_enter Try.func10, Try.ntmps10
  go_wp2_with fail
  (with_reducible refine (cM.out _ (hB.out.keep (by go_grown))).mono ?_)
  rintro e w0 ⟨rfl, rfl⟩
  obtain ⟨W, hW⟩ : ∃ W, w.alloc (.cells (madeCells #[.bool false] n) 4) = W := ⟨_, rfl⟩
  have hbw0 : Below w.heap.size w W := by rw [← hW]; go_grown
  rw [hW]
  have HA := hA.out.keep hbw0
  have HB := hB.out.keep hbw0
  clear hmk
  replace hW := Lib.hid hW
  go_wp2_with fail
  (with_reducible refine (cP.out _ HA HB).mono ?_)
  rintro e w1 ⟨rfl, hb1⟩
  have hbw1 : Below w.heap.size w w1 := below_call hb1 hbw0
  go_wp2_with fail
  (with_reducible refine (cO.out _ _).mono ?_)
  rintro e w2 ⟨A1, d1, rfl, R1, hb2⟩
  have hbw2 : Below w.heap.size w w2 := below_call hb2 hbw1
  go_wp2_with fail
  go_ret2
  exact ⟨_, _, rfl, R1, hbw2⟩
set_option maxRecDepth 1000000 in
set_option maxHeartbeats 2000000 in
theorem refBin_15 (n c1 c2 x y : Nat) (A B : Option Addr) (w : World) (h1 : 1 ≤ n) (hn : n ≤ 128) (hA : RB w A n (tb x)) (hB : RB w B n (tb y)) (hx : x < 2 ^ n) (hy : y < 2 ^ n) :
    Calls Try.prog 10 #[.int .i64 15, .slice A n c1, .slice B n c2] w (LN w 1 (decide (x < y)).toNat 0) := by
  have hmk := run_make_row' 22 4 (.bool false) 1 Try.underlying22 info_bool rfl .i64 .i64 n (by omega) (by omega)
  have cM := fun w (h : RB w B n (tb y)) => refNum_nat n c2 n (by omega) B (tb y) w (by omega) h
  rw [valB_tbl y n hy] at cM
  replace cM := Lib.hid cM
  have n1 : ((n : Int) != (n : Int)) = false := by simp
  have n0 : ((n : Int) == 0) = false := by simp; omega
  have cP := Lib.hid (fun w (h : RB w A n (tb x)) (h2 : RB w B n (tb y)) => refLess_num n c1 c2 x y A B w hn h h2 hx hy)
  have cO := Lib.hid (fun w b => (refOne_ok b w).mono fun e w' g => g.num (x := b.toNat) (by cases b <;> rfl))
  replace hA := Lib.hid hA
  replace hB := Lib.hid hB
  generalize decide (x < y) = bb at *
  go_enter Try.func10, Try.ntmps10
  go_wp2_with fail
  (with_reducible refine (cM.out _ (hB.out.keep (by go_grown))).mono ?_)
  rintro e w0 ⟨rfl, rfl⟩
  obtain ⟨W, hW⟩ : ∃ W, w.alloc (.cells (madeCells #[.bool false] n) 4) = W := ⟨_, rfl⟩
  have hbw0 : Below w.heap.size w W := by rw [← hW]; go_grown
  rw [hW]
  have HA := hA.out.keep hbw0
  have HB := hB.out.keep hbw0
  clear hmk
  replace hW := Lib.hid hW
  go_wp2_with fail
  (with_reducible refine (cP.out _ HA HB).mono ?_)
  rintro e w1 ⟨rfl, hb1⟩
  have hbw1 : Below w.heap.size w w1 := below_call hb1 hbw0
  go_wp2_with fail
  (with_reducible refine (cO.out _ _).mono ?_)
  rintro e w2 ⟨A1, d1, rfl, R1, hb2⟩
  have hbw2 : Below w.heap.size w w2 := below_call hb2 hbw1
  go_wp2_with fail
  go_ret2
  exact ⟨_, _, rfl, R1, hbw2⟩
set_option maxRecDepth 1000000 in
set_option maxHeartbeats 2000000 in
theorem refBin_16 (n c1 c2 x y : Nat) (A B : Option Addr) (w : World) (h1 : 1 ≤ n) (hn : n ≤ 128) (hA : RB w A n (tb x)) (hB : RB w B n (tb y)) (hx : x < 2 ^ n) (hy : y < 2 ^ n) :
    Calls Try.prog 10 #[.int .i64 16, .slice A n c1, .slice B n c2] w (LN w 1 (!decide (y < x)).toNat 0) := by
  have hmk := run_make_row' 22 4 (.bool false) 1 Try.underlying22 info_bool rfl .i64 .i64 n (by omega) (by omega)
  have cM := fun w (h : RB w B n (tb y)) => refNum_nat n c2 n (by omega) B (tb y) w (by omega) h
  rw [valB_tbl y n hy] at cM
  replace cM := Lib.hid cM
  have n1 : ((n : Int) != (n : Int)) = false := by simp
  have n0 : ((n : Int) == 0) = false := by simp; omega
  have cP := Lib.hid (fun w (h : RB w A n (tb x)) (h2 : RB w B n (tb y)) => refLess_num n c2 c1 y x B A w hn h2 h hy hx)
  have cO := Lib.hid (fun w b => (refOne_ok b w).mono fun e w' g => g.num (x := b.toNat) (by cases b <;> rfl))
  replace hA := Lib.hid hA
  replace hB := Lib.hid hB
  generalize decide (y < x) = bb at *
  go_enter Try.func10, Try.ntmps10
  go_wp2_with fail
  (with_reducible refine (cM.out _ (hB.out.keep (by go_grown))).mono ?_)
  rintro e w0 ⟨rfl, rfl⟩
  obtain ⟨W, hW⟩ : ∃ W, w.alloc (.cells (madeCells #[.bool false] n) 4) = W := ⟨_, rfl⟩
  have hbw0 : Below w.heap.size w W := by rw [← hW]; go_grown
  rw [hW]
  have HA := hA.out.keep hbw0
  have HB := hB.out.keep hbw0
  clear hmk
  replace hW := Lib.hid hW
  go_wp2_with fail
  (with_reducible refine (cP.out _ HA HB).mono ?_)
  rintro e w1 ⟨rfl, hb1⟩
  have hbw1 : Below w.heap.size w w1 := below_call hb1 hbw0
  go_wp2_with fail
  (with_reducible refine (cO.out _ _).mono ?_)
  rintro e w2 ⟨A1, d1, rfl, R1, hb2⟩
  have hbw2 : Below w.heap.size w w2 := below_call hb2 hbw1
  go_wp2_with fail
  go_ret2
  exact ⟨_, _, rfl, R1, hbw2⟩
end Go.Proofs.Ytmgkidfikikjpaa
