/-
  The walk of bv's divideSigned.
-/
import Derived.Test.YtdjaikglkgabdaaGreatDoorWj
import Derived.Test.YtdjaikglkgabdaaGreatDoorWg
import Derived.Test.YtdjaikglkgabdaaGreatDoorM
import Derived.Deep.RegionHeld3
import Derived.RegionTactic
namespace Go.Proofs.YtdjaikglkgabdaaGreatDoor
open Go.RowKit
set_option maxRecDepth 100000 in
set_option maxHeartbeats 1000000 in
theorem divS_ff (n x y mx my q r q2 r2 : Nat) (w : World)
    (hz : ∀ w, Calls Tryz.prog 117 #[vv n y] w (RV w (.bool false)))
    (hMx : ∀ w, Calls Tryz.prog 143 #[vv n x] w (RV w (vv n mx)))
    (hMy : ∀ w, Calls Tryz.prog 143 #[vv n y] w (RV w (vv n my)))
    (hDv : ∀ w, Calls Tryz.prog 130 #[vv n mx, vv n my] w (RV w (.tuple #[vv n q, vv n r])))
    (hNx : ∀ w, Calls Tryz.prog 137 #[vv n x] w (RV w (.bool false)))
    (hNy : ∀ w, Calls Tryz.prog 137 #[vv n y] w (RV w (.bool false)))
    (hGq : ∀ w, Calls Tryz.prog 114 #[vv n q] w (RV w (vv n q2)))
    (hGr : ∀ w, Calls Tryz.prog 114 #[vv n r] w (RV w (vv n r2))) :
    Calls Tryz.prog 131 #[vv n x, vv n y] w (RV w (.tuple #[vv n q, vv n r])) := by
  replace hz := Lib.hid hz
  replace hMx := Lib.hid hMx
  replace hMy := Lib.hid hMy
  replace hDv := Lib.hid hDv
  replace hNx := Lib.hid hNx
  replace hNy := Lib.hid hNy
  replace hGq := Lib.hid hGq
  replace hGr := Lib.hid hGr
  go_enter Tryz.func131, Tryz.ntmps131
  go_wp2_with (go_at_call 117; (with_reducible refine (hz.out _).mono ?_); rintro e w1 ⟨rfl, hb1⟩; obtain ⟨A1, B1, Q1, R1, hbw1⟩ := start4 hb1; have a1 := A1.all; have b1 := B1.all; have q1 := Q1.all; have r1 := R1.all; clear hb1)
  go_region_held3 (fun w' => (w'.cell? ⟨w.heap.size, 0, none⟩ = some (.int .i64 (n : Int)) ∧ w'.cell? ⟨w.heap.size, 1, none⟩ = some (.int .u64 ((lo x : Nat) : Int)) ∧ w'.cell? ⟨w.heap.size, 2, none⟩ = some (.int .u64 ((hi x : Nat) : Int))) ∧ (w'.cell? ⟨w.heap.size + 1, 0, none⟩ = some (.int .i64 (n : Int)) ∧ w'.cell? ⟨w.heap.size + 1, 1, none⟩ = some (.int .u64 ((lo y : Nat) : Int)) ∧ w'.cell? ⟨w.heap.size + 1, 2, none⟩ = some (.int .u64 ((hi y : Nat) : Int))))
    (first | (with_reducible exact ⟨A1.drew.keep3, B1.drew.keep3⟩) | (with_reducible exact ⟨A2.keep3, B2.keep3⟩) | (with_reducible exact ⟨A3.keep3, B3.keep3⟩) | (with_reducible exact ⟨A4.keep3, B4.keep3⟩) | (with_reducible exact ⟨(A4.far3 (by omega)).keep3, (B4.far3 (by omega)).keep3⟩) | (with_reducible exact ⟨((A4.far3 (by omega)).far3 (by omega)).keep3, ((B4.far3 (by omega)).far3 (by omega)).keep3⟩))
    (first
      | (go_at_call 143; (with_reducible refine (hMx.out _).mono ?_); clear hMx; rintro e w2 ⟨rfl, hb2⟩; have A2 := A1.drew.over hb2; have B2 := B1.drew.over hb2; have Q2 := Q1.drew.over hb2; have R2 := R1.drew.over hb2; have hbw2 : Below w.heap.size w w2 := below_call hb2 hbw1.drew; have a2 := A2.all; have b2 := B2.all; have q2 := Q2.all; have r2 := R2.all; clear hb2 a1 b1 q1 r1)
      | (go_at_call 143; (with_reducible refine (hMy.out _).mono ?_); clear hMy; rintro e w3 ⟨rfl, hb3⟩; have A3 := A2.over hb3; have B3 := B2.over hb3; have Q3 := Q2.over hb3; have R3 := R2.over hb3; have hbw3 : Below w.heap.size w w3 := below_call hb3 hbw2; have a3 := A3.all; have b3 := B3.all; have q3 := Q3.all; have r3 := R3.all; clear hb3 a2 b2 q2 r2)
      | (go_at_call 130; (with_reducible refine (hDv.out _).mono ?_); clear hDv; rintro e w4 ⟨rfl, hb4⟩; have A4 := A3.over hb4; have B4 := B3.over hb4; have Q4 := Q3.over hb4; have R4 := R3.over hb4; have hbw4 : Below w.heap.size w w4 := below_call hb4 hbw3; have a4 := A4.all; have b4 := B4.all; have q4 := Q4.all; have r4 := R4.all; clear hb4 a3 b3 q3 r3))
  clear A1 B1 Q1 R1 hbw1 A2 B2 Q2 R2 hbw2 A3 B3 Q3 R3 hbw3
  have A5 := (A4.far3 (d := w.heap.size + 1 + 1) (i := 0) (j := 1) (k := 2) (u := .int .i64 (n : Int)) (v := .int .u64 ((lo q : Nat) : Int)) (z := .int .u64 ((hi q : Nat) : Int)) (by omega)).far3 (d := w.heap.size + 1 + 1 + 1) (i := 0) (j := 1) (k := 2) (u := .int .i64 (n : Int)) (v := .int .u64 ((lo r : Nat) : Int)) (z := .int .u64 ((hi r : Nat) : Int)) (by omega)
  have B5 := (B4.far3 (d := w.heap.size + 1 + 1) (i := 0) (j := 1) (k := 2) (u := .int .i64 (n : Int)) (v := .int .u64 ((lo q : Nat) : Int)) (z := .int .u64 ((hi q : Nat) : Int)) (by omega)).far3 (d := w.heap.size + 1 + 1 + 1) (i := 0) (j := 1) (k := 2) (u := .int .i64 (n : Int)) (v := .int .u64 ((lo r : Nat) : Int)) (z := .int .u64 ((hi r : Nat) : Int)) (by omega)
  have Q5 := (Q4.set3 n q).far3 (d := w.heap.size + 1 + 1 + 1) (i := 0) (j := 1) (k := 2) (u := .int .i64 (n : Int)) (v := .int .u64 ((lo r : Nat) : Int)) (z := .int .u64 ((hi r : Nat) : Int)) (by omega)
  have R5 := (R4.far3 (d := w.heap.size + 1 + 1) (i := 0) (j := 1) (k := 2) (u := .int .i64 (n : Int)) (v := .int .u64 ((lo q : Nat) : Int)) (z := .int .u64 ((hi q : Nat) : Int)) (by omega)).set3 n r
  have hbw5 : Below w.heap.size w ((((((w4.setCell ⟨w.heap.size + 1 + 1, 0, none⟩ (.int .i64 (n : Int))).setCell ⟨w.heap.size + 1 + 1, 1, none⟩ (.int .u64 ((lo q : Nat) : Int))).setCell ⟨w.heap.size + 1 + 1, 2, none⟩ (.int .u64 ((hi q : Nat) : Int))).setCell ⟨w.heap.size + 1 + 1 + 1, 0, none⟩ (.int .i64 (n : Int))).setCell ⟨w.heap.size + 1 + 1 + 1, 1, none⟩ (.int .u64 ((lo r : Nat) : Int))).setCell ⟨w.heap.size + 1 + 1 + 1, 2, none⟩ (.int .u64 ((hi r : Nat) : Int))) := by
    repeat' (first | (with_reducible refine Below.setCell ?_ ?_ _))
    all_goals (first | exact hbw4 | (show w.heap.size ≤ _ + 1; omega))
  clear A4 B4 Q4 R4 hbw4 a4 b4 q4 r4
  go_wp2_with fail
  go_region_held3 (fun w' => (w'.cell? ⟨w.heap.size, 0, none⟩ = some (.int .i64 (n : Int)) ∧ w'.cell? ⟨w.heap.size, 1, none⟩ = some (.int .u64 ((lo x : Nat) : Int)) ∧ w'.cell? ⟨w.heap.size, 2, none⟩ = some (.int .u64 ((hi x : Nat) : Int))) ∧ (w'.cell? ⟨w.heap.size + 1, 0, none⟩ = some (.int .i64 (n : Int)) ∧ w'.cell? ⟨w.heap.size + 1, 1, none⟩ = some (.int .u64 ((lo y : Nat) : Int)) ∧ w'.cell? ⟨w.heap.size + 1, 2, none⟩ = some (.int .u64 ((hi y : Nat) : Int))))
    (first | (with_reducible exact ⟨A5.drew.keep3, B5.drew.keep3⟩) | (with_reducible exact ⟨A6.keep3, B6.keep3⟩) | (with_reducible exact ⟨A7.keep3, B7.keep3⟩))
    (first
      | (go_at_call 137; (with_reducible refine (hNx.out _).mono ?_); have hNx2 := hNx; clear hNx; rintro e w6 ⟨rfl, hb6⟩; have A6 := A5.drew.over hb6; have B6 := B5.drew.over hb6; have Q6 := Q5.drew.over hb6; have R6 := R5.drew.over hb6; have hbw6 : Below w.heap.size w w6 := below_call hb6 hbw5.drew; have a6 := A6.all; have b6 := B6.all; have q6 := Q6.all; have r6 := R6.all; clear hb6 )
      | (go_at_call 137; (with_reducible refine (hNy.out _).mono ?_); clear hNy; rintro e w7 ⟨rfl, hb7⟩; have A7 := A6.over hb7; have B7 := B6.over hb7; have Q7 := Q6.over hb7; have R7 := R6.over hb7; have hbw7 : Below w.heap.size w w7 := below_call hb7 hbw6; have a7 := A7.all; have b7 := B7.all; have q7 := Q7.all; have r7 := R7.all; clear hb7 a6 b6 q6 r6))
  clear A5 B5 Q5 R5 hbw5 A6 B6 Q6 R6 hbw6
  go_wp2_with fail
  (with_reducible refine (hNx2.out _).mono ?_)
  rintro e w9 ⟨rfl, hb9⟩
  have Q9 := Q7.over hb9
  have R9 := R7.over hb9
  have hbw9 : Below w.heap.size w w9 := below_call hb9 hbw7
  have q9 := Q9.all
  have r9 := R9.all
  clear hb9 a7 b7 q7 r7 A7 B7 Q7 R7 hbw7
  go_wp2_with fail
  go_region
  all_goals
    go_wp2
    refine bodyPost_ret (v := .tuple #[vv n q, vv n r]) (by simp [results, Tryz.results131, go_sem, q9, r9]) rfl ⟨rfl, ?_⟩
    repeat' (first | (with_reducible refine Below.drew ?_) | (with_reducible refine Below.setCell ?_ ?_ _))
    all_goals (first | exact hbw9 | (show w.heap.size ≤ _ + 1; omega))
set_option maxRecDepth 100000 in
set_option maxHeartbeats 1000000 in
theorem divS_ft (n x y mx my q r q2 r2 : Nat) (w : World)
    (hz : ∀ w, Calls Tryz.prog 117 #[vv n y] w (RV w (.bool false)))
    (hMx : ∀ w, Calls Tryz.prog 143 #[vv n x] w (RV w (vv n mx)))
    (hMy : ∀ w, Calls Tryz.prog 143 #[vv n y] w (RV w (vv n my)))
    (hDv : ∀ w, Calls Tryz.prog 130 #[vv n mx, vv n my] w (RV w (.tuple #[vv n q, vv n r])))
    (hNx : ∀ w, Calls Tryz.prog 137 #[vv n x] w (RV w (.bool false)))
    (hNy : ∀ w, Calls Tryz.prog 137 #[vv n y] w (RV w (.bool true)))
    (hGq : ∀ w, Calls Tryz.prog 114 #[vv n q] w (RV w (vv n q2)))
    (hGr : ∀ w, Calls Tryz.prog 114 #[vv n r] w (RV w (vv n r2))) :
    Calls Tryz.prog 131 #[vv n x, vv n y] w (RV w (.tuple #[vv n q2, vv n r])) := by
  replace hz := Lib.hid hz
  replace hMx := Lib.hid hMx
  replace hMy := Lib.hid hMy
  replace hDv := Lib.hid hDv
  replace hNx := Lib.hid hNx
  replace hNy := Lib.hid hNy
  replace hGq := Lib.hid hGq
  replace hGr := Lib.hid hGr
  go_enter Tryz.func131, Tryz.ntmps131
  go_wp2_with (go_at_call 117; (with_reducible refine (hz.out _).mono ?_); rintro e w1 ⟨rfl, hb1⟩; obtain ⟨A1, B1, Q1, R1, hbw1⟩ := start4 hb1; have a1 := A1.all; have b1 := B1.all; have q1 := Q1.all; have r1 := R1.all; clear hb1)
  go_region_held3 (fun w' => (w'.cell? ⟨w.heap.size, 0, none⟩ = some (.int .i64 (n : Int)) ∧ w'.cell? ⟨w.heap.size, 1, none⟩ = some (.int .u64 ((lo x : Nat) : Int)) ∧ w'.cell? ⟨w.heap.size, 2, none⟩ = some (.int .u64 ((hi x : Nat) : Int))) ∧ (w'.cell? ⟨w.heap.size + 1, 0, none⟩ = some (.int .i64 (n : Int)) ∧ w'.cell? ⟨w.heap.size + 1, 1, none⟩ = some (.int .u64 ((lo y : Nat) : Int)) ∧ w'.cell? ⟨w.heap.size + 1, 2, none⟩ = some (.int .u64 ((hi y : Nat) : Int))))
    (first | (with_reducible exact ⟨A1.drew.keep3, B1.drew.keep3⟩) | (with_reducible exact ⟨A2.keep3, B2.keep3⟩) | (with_reducible exact ⟨A3.keep3, B3.keep3⟩) | (with_reducible exact ⟨A4.keep3, B4.keep3⟩) | (with_reducible exact ⟨(A4.far3 (by omega)).keep3, (B4.far3 (by omega)).keep3⟩) | (with_reducible exact ⟨((A4.far3 (by omega)).far3 (by omega)).keep3, ((B4.far3 (by omega)).far3 (by omega)).keep3⟩))
    (first
      | (go_at_call 143; (with_reducible refine (hMx.out _).mono ?_); clear hMx; rintro e w2 ⟨rfl, hb2⟩; have A2 := A1.drew.over hb2; have B2 := B1.drew.over hb2; have Q2 := Q1.drew.over hb2; have R2 := R1.drew.over hb2; have hbw2 : Below w.heap.size w w2 := below_call hb2 hbw1.drew; have a2 := A2.all; have b2 := B2.all; have q2 := Q2.all; have r2 := R2.all; clear hb2 a1 b1 q1 r1)
      | (go_at_call 143; (with_reducible refine (hMy.out _).mono ?_); clear hMy; rintro e w3 ⟨rfl, hb3⟩; have A3 := A2.over hb3; have B3 := B2.over hb3; have Q3 := Q2.over hb3; have R3 := R2.over hb3; have hbw3 : Below w.heap.size w w3 := below_call hb3 hbw2; have a3 := A3.all; have b3 := B3.all; have q3 := Q3.all; have r3 := R3.all; clear hb3 a2 b2 q2 r2)
      | (go_at_call 130; (with_reducible refine (hDv.out _).mono ?_); clear hDv; rintro e w4 ⟨rfl, hb4⟩; have A4 := A3.over hb4; have B4 := B3.over hb4; have Q4 := Q3.over hb4; have R4 := R3.over hb4; have hbw4 : Below w.heap.size w w4 := below_call hb4 hbw3; have a4 := A4.all; have b4 := B4.all; have q4 := Q4.all; have r4 := R4.all; clear hb4 a3 b3 q3 r3))
  clear A1 B1 Q1 R1 hbw1 A2 B2 Q2 R2 hbw2 A3 B3 Q3 R3 hbw3
  have A5 := (A4.far3 (d := w.heap.size + 1 + 1) (i := 0) (j := 1) (k := 2) (u := .int .i64 (n : Int)) (v := .int .u64 ((lo q : Nat) : Int)) (z := .int .u64 ((hi q : Nat) : Int)) (by omega)).far3 (d := w.heap.size + 1 + 1 + 1) (i := 0) (j := 1) (k := 2) (u := .int .i64 (n : Int)) (v := .int .u64 ((lo r : Nat) : Int)) (z := .int .u64 ((hi r : Nat) : Int)) (by omega)
  have B5 := (B4.far3 (d := w.heap.size + 1 + 1) (i := 0) (j := 1) (k := 2) (u := .int .i64 (n : Int)) (v := .int .u64 ((lo q : Nat) : Int)) (z := .int .u64 ((hi q : Nat) : Int)) (by omega)).far3 (d := w.heap.size + 1 + 1 + 1) (i := 0) (j := 1) (k := 2) (u := .int .i64 (n : Int)) (v := .int .u64 ((lo r : Nat) : Int)) (z := .int .u64 ((hi r : Nat) : Int)) (by omega)
  have Q5 := (Q4.set3 n q).far3 (d := w.heap.size + 1 + 1 + 1) (i := 0) (j := 1) (k := 2) (u := .int .i64 (n : Int)) (v := .int .u64 ((lo r : Nat) : Int)) (z := .int .u64 ((hi r : Nat) : Int)) (by omega)
  have R5 := (R4.far3 (d := w.heap.size + 1 + 1) (i := 0) (j := 1) (k := 2) (u := .int .i64 (n : Int)) (v := .int .u64 ((lo q : Nat) : Int)) (z := .int .u64 ((hi q : Nat) : Int)) (by omega)).set3 n r
  have hbw5 : Below w.heap.size w ((((((w4.setCell ⟨w.heap.size + 1 + 1, 0, none⟩ (.int .i64 (n : Int))).setCell ⟨w.heap.size + 1 + 1, 1, none⟩ (.int .u64 ((lo q : Nat) : Int))).setCell ⟨w.heap.size + 1 + 1, 2, none⟩ (.int .u64 ((hi q : Nat) : Int))).setCell ⟨w.heap.size + 1 + 1 + 1, 0, none⟩ (.int .i64 (n : Int))).setCell ⟨w.heap.size + 1 + 1 + 1, 1, none⟩ (.int .u64 ((lo r : Nat) : Int))).setCell ⟨w.heap.size + 1 + 1 + 1, 2, none⟩ (.int .u64 ((hi r : Nat) : Int))) := by
    repeat' (first | (with_reducible refine Below.setCell ?_ ?_ _))
    all_goals (first | exact hbw4 | (show w.heap.size ≤ _ + 1; omega))
  clear A4 B4 Q4 R4 hbw4 a4 b4 q4 r4
  go_wp2_with fail
  go_region_held3 (fun w' => (w'.cell? ⟨w.heap.size, 0, none⟩ = some (.int .i64 (n : Int)) ∧ w'.cell? ⟨w.heap.size, 1, none⟩ = some (.int .u64 ((lo x : Nat) : Int)) ∧ w'.cell? ⟨w.heap.size, 2, none⟩ = some (.int .u64 ((hi x : Nat) : Int))) ∧ (w'.cell? ⟨w.heap.size + 1, 0, none⟩ = some (.int .i64 (n : Int)) ∧ w'.cell? ⟨w.heap.size + 1, 1, none⟩ = some (.int .u64 ((lo y : Nat) : Int)) ∧ w'.cell? ⟨w.heap.size + 1, 2, none⟩ = some (.int .u64 ((hi y : Nat) : Int))))
    (first | (with_reducible exact ⟨A5.drew.keep3, B5.drew.keep3⟩) | (with_reducible exact ⟨A6.keep3, B6.keep3⟩) | (with_reducible exact ⟨A7.keep3, B7.keep3⟩))
    (first
      | (go_at_call 137; (with_reducible refine (hNx.out _).mono ?_); have hNx2 := hNx; clear hNx; rintro e w6 ⟨rfl, hb6⟩; have A6 := A5.drew.over hb6; have B6 := B5.drew.over hb6; have Q6 := Q5.drew.over hb6; have R6 := R5.drew.over hb6; have hbw6 : Below w.heap.size w w6 := below_call hb6 hbw5.drew; have a6 := A6.all; have b6 := B6.all; have q6 := Q6.all; have r6 := R6.all; clear hb6 )
      | (go_at_call 137; (with_reducible refine (hNy.out _).mono ?_); clear hNy; rintro e w7 ⟨rfl, hb7⟩; have A7 := A6.over hb7; have B7 := B6.over hb7; have Q7 := Q6.over hb7; have R7 := R6.over hb7; have hbw7 : Below w.heap.size w w7 := below_call hb7 hbw6; have a7 := A7.all; have b7 := B7.all; have q7 := Q7.all; have r7 := R7.all; clear hb7 a6 b6 q6 r6))
  clear A5 B5 Q5 R5 hbw5 A6 B6 Q6 R6 hbw6
  go_wp2_with fail
  (with_reducible refine (hGq.out _).mono ?_)
  rintro e w8 ⟨rfl, hb8⟩
  have A8 := A7.over hb8; have B8 := B7.over hb8; have Q8 := Q7.over hb8; have R8 := R7.over hb8; have hbw8 : Below w.heap.size w w8 := below_call hb8 hbw7; have a8 := A8.all; have b8 := B8.all; have q8 := Q8.all; have r8 := R8.all; clear hb8 a7 b7 q7 r7
  clear A7 B7 Q7 R7 hbw7
  go_wp2_with fail
  (with_reducible refine (hNx2.out _).mono ?_)
  rintro e w9 ⟨rfl, hb9⟩
  have Q9 := (Q8.set3 n q2).over hb9
  have R9 := (R8.far3 (by omega)).over hb9
  have hbw9 : Below w.heap.size w w9 := below_call hb9 (by
    repeat' (first | (with_reducible refine Below.setCell ?_ ?_ _))
    all_goals (first | exact hbw8 | (show w.heap.size ≤ _ + 1; omega)))
  have q9 := Q9.all
  have r9 := R9.all
  clear hb9 a8 b8 q8 r8 A8 B8 Q8 R8 hbw8
  go_wp2_with fail
  go_region
  all_goals
    go_wp2
    refine bodyPost_ret (v := .tuple #[vv n q2, vv n r]) (by simp [results, Tryz.results131, go_sem, q9, r9]) rfl ⟨rfl, ?_⟩
    repeat' (first | (with_reducible refine Below.drew ?_) | (with_reducible refine Below.setCell ?_ ?_ _))
    all_goals (first | exact hbw9 | (show w.heap.size ≤ _ + 1; omega))
set_option maxRecDepth 100000 in
set_option maxHeartbeats 1000000 in
theorem divS_tf (n x y mx my q r q2 r2 : Nat) (w : World)
    (hz : ∀ w, Calls Tryz.prog 117 #[vv n y] w (RV w (.bool false)))
    (hMx : ∀ w, Calls Tryz.prog 143 #[vv n x] w (RV w (vv n mx)))
    (hMy : ∀ w, Calls Tryz.prog 143 #[vv n y] w (RV w (vv n my)))
    (hDv : ∀ w, Calls Tryz.prog 130 #[vv n mx, vv n my] w (RV w (.tuple #[vv n q, vv n r])))
    (hNx : ∀ w, Calls Tryz.prog 137 #[vv n x] w (RV w (.bool true)))
    (hNy : ∀ w, Calls Tryz.prog 137 #[vv n y] w (RV w (.bool false)))
    (hGq : ∀ w, Calls Tryz.prog 114 #[vv n q] w (RV w (vv n q2)))
    (hGr : ∀ w, Calls Tryz.prog 114 #[vv n r] w (RV w (vv n r2))) :
    Calls Tryz.prog 131 #[vv n x, vv n y] w (RV w (.tuple #[vv n q2, vv n r2])) := by
  replace hz := Lib.hid hz
  replace hMx := Lib.hid hMx
  replace hMy := Lib.hid hMy
  replace hDv := Lib.hid hDv
  replace hNx := Lib.hid hNx
  replace hNy := Lib.hid hNy
  replace hGq := Lib.hid hGq
  replace hGr := Lib.hid hGr
  go_enter Tryz.func131, Tryz.ntmps131
  go_wp2_with (go_at_call 117; (with_reducible refine (hz.out _).mono ?_); rintro e w1 ⟨rfl, hb1⟩; obtain ⟨A1, B1, Q1, R1, hbw1⟩ := start4 hb1; have a1 := A1.all; have b1 := B1.all; have q1 := Q1.all; have r1 := R1.all; clear hb1)
  go_region_held3 (fun w' => (w'.cell? ⟨w.heap.size, 0, none⟩ = some (.int .i64 (n : Int)) ∧ w'.cell? ⟨w.heap.size, 1, none⟩ = some (.int .u64 ((lo x : Nat) : Int)) ∧ w'.cell? ⟨w.heap.size, 2, none⟩ = some (.int .u64 ((hi x : Nat) : Int))) ∧ (w'.cell? ⟨w.heap.size + 1, 0, none⟩ = some (.int .i64 (n : Int)) ∧ w'.cell? ⟨w.heap.size + 1, 1, none⟩ = some (.int .u64 ((lo y : Nat) : Int)) ∧ w'.cell? ⟨w.heap.size + 1, 2, none⟩ = some (.int .u64 ((hi y : Nat) : Int))))
    (first | (with_reducible exact ⟨A1.drew.keep3, B1.drew.keep3⟩) | (with_reducible exact ⟨A2.keep3, B2.keep3⟩) | (with_reducible exact ⟨A3.keep3, B3.keep3⟩) | (with_reducible exact ⟨A4.keep3, B4.keep3⟩) | (with_reducible exact ⟨(A4.far3 (by omega)).keep3, (B4.far3 (by omega)).keep3⟩) | (with_reducible exact ⟨((A4.far3 (by omega)).far3 (by omega)).keep3, ((B4.far3 (by omega)).far3 (by omega)).keep3⟩))
    (first
      | (go_at_call 143; (with_reducible refine (hMx.out _).mono ?_); clear hMx; rintro e w2 ⟨rfl, hb2⟩; have A2 := A1.drew.over hb2; have B2 := B1.drew.over hb2; have Q2 := Q1.drew.over hb2; have R2 := R1.drew.over hb2; have hbw2 : Below w.heap.size w w2 := below_call hb2 hbw1.drew; have a2 := A2.all; have b2 := B2.all; have q2 := Q2.all; have r2 := R2.all; clear hb2 a1 b1 q1 r1)
      | (go_at_call 143; (with_reducible refine (hMy.out _).mono ?_); clear hMy; rintro e w3 ⟨rfl, hb3⟩; have A3 := A2.over hb3; have B3 := B2.over hb3; have Q3 := Q2.over hb3; have R3 := R2.over hb3; have hbw3 : Below w.heap.size w w3 := below_call hb3 hbw2; have a3 := A3.all; have b3 := B3.all; have q3 := Q3.all; have r3 := R3.all; clear hb3 a2 b2 q2 r2)
      | (go_at_call 130; (with_reducible refine (hDv.out _).mono ?_); clear hDv; rintro e w4 ⟨rfl, hb4⟩; have A4 := A3.over hb4; have B4 := B3.over hb4; have Q4 := Q3.over hb4; have R4 := R3.over hb4; have hbw4 : Below w.heap.size w w4 := below_call hb4 hbw3; have a4 := A4.all; have b4 := B4.all; have q4 := Q4.all; have r4 := R4.all; clear hb4 a3 b3 q3 r3))
  clear A1 B1 Q1 R1 hbw1 A2 B2 Q2 R2 hbw2 A3 B3 Q3 R3 hbw3
  have A5 := (A4.far3 (d := w.heap.size + 1 + 1) (i := 0) (j := 1) (k := 2) (u := .int .i64 (n : Int)) (v := .int .u64 ((lo q : Nat) : Int)) (z := .int .u64 ((hi q : Nat) : Int)) (by omega)).far3 (d := w.heap.size + 1 + 1 + 1) (i := 0) (j := 1) (k := 2) (u := .int .i64 (n : Int)) (v := .int .u64 ((lo r : Nat) : Int)) (z := .int .u64 ((hi r : Nat) : Int)) (by omega)
  have B5 := (B4.far3 (d := w.heap.size + 1 + 1) (i := 0) (j := 1) (k := 2) (u := .int .i64 (n : Int)) (v := .int .u64 ((lo q : Nat) : Int)) (z := .int .u64 ((hi q : Nat) : Int)) (by omega)).far3 (d := w.heap.size + 1 + 1 + 1) (i := 0) (j := 1) (k := 2) (u := .int .i64 (n : Int)) (v := .int .u64 ((lo r : Nat) : Int)) (z := .int .u64 ((hi r : Nat) : Int)) (by omega)
  have Q5 := (Q4.set3 n q).far3 (d := w.heap.size + 1 + 1 + 1) (i := 0) (j := 1) (k := 2) (u := .int .i64 (n : Int)) (v := .int .u64 ((lo r : Nat) : Int)) (z := .int .u64 ((hi r : Nat) : Int)) (by omega)
  have R5 := (R4.far3 (d := w.heap.size + 1 + 1) (i := 0) (j := 1) (k := 2) (u := .int .i64 (n : Int)) (v := .int .u64 ((lo q : Nat) : Int)) (z := .int .u64 ((hi q : Nat) : Int)) (by omega)).set3 n r
  have hbw5 : Below w.heap.size w ((((((w4.setCell ⟨w.heap.size + 1 + 1, 0, none⟩ (.int .i64 (n : Int))).setCell ⟨w.heap.size + 1 + 1, 1, none⟩ (.int .u64 ((lo q : Nat) : Int))).setCell ⟨w.heap.size + 1 + 1, 2, none⟩ (.int .u64 ((hi q : Nat) : Int))).setCell ⟨w.heap.size + 1 + 1 + 1, 0, none⟩ (.int .i64 (n : Int))).setCell ⟨w.heap.size + 1 + 1 + 1, 1, none⟩ (.int .u64 ((lo r : Nat) : Int))).setCell ⟨w.heap.size + 1 + 1 + 1, 2, none⟩ (.int .u64 ((hi r : Nat) : Int))) := by
    repeat' (first | (with_reducible refine Below.setCell ?_ ?_ _))
    all_goals (first | exact hbw4 | (show w.heap.size ≤ _ + 1; omega))
  clear A4 B4 Q4 R4 hbw4 a4 b4 q4 r4
  go_wp2_with fail
  go_region_held3 (fun w' => (w'.cell? ⟨w.heap.size, 0, none⟩ = some (.int .i64 (n : Int)) ∧ w'.cell? ⟨w.heap.size, 1, none⟩ = some (.int .u64 ((lo x : Nat) : Int)) ∧ w'.cell? ⟨w.heap.size, 2, none⟩ = some (.int .u64 ((hi x : Nat) : Int))) ∧ (w'.cell? ⟨w.heap.size + 1, 0, none⟩ = some (.int .i64 (n : Int)) ∧ w'.cell? ⟨w.heap.size + 1, 1, none⟩ = some (.int .u64 ((lo y : Nat) : Int)) ∧ w'.cell? ⟨w.heap.size + 1, 2, none⟩ = some (.int .u64 ((hi y : Nat) : Int))))
    (first | (with_reducible exact ⟨A5.drew.keep3, B5.drew.keep3⟩) | (with_reducible exact ⟨A6.keep3, B6.keep3⟩) | (with_reducible exact ⟨A7.keep3, B7.keep3⟩))
    (first
      | (go_at_call 137; (with_reducible refine (hNx.out _).mono ?_); have hNx2 := hNx; clear hNx; rintro e w6 ⟨rfl, hb6⟩; have A6 := A5.drew.over hb6; have B6 := B5.drew.over hb6; have Q6 := Q5.drew.over hb6; have R6 := R5.drew.over hb6; have hbw6 : Below w.heap.size w w6 := below_call hb6 hbw5.drew; have a6 := A6.all; have b6 := B6.all; have q6 := Q6.all; have r6 := R6.all; clear hb6 )
      | (go_at_call 137; (with_reducible refine (hNy.out _).mono ?_); clear hNy; rintro e w7 ⟨rfl, hb7⟩; have A7 := A6.over hb7; have B7 := B6.over hb7; have Q7 := Q6.over hb7; have R7 := R6.over hb7; have hbw7 : Below w.heap.size w w7 := below_call hb7 hbw6; have a7 := A7.all; have b7 := B7.all; have q7 := Q7.all; have r7 := R7.all; clear hb7 a6 b6 q6 r6))
  clear A5 B5 Q5 R5 hbw5 A6 B6 Q6 R6 hbw6
  go_wp2_with fail
  (with_reducible refine (hGq.out _).mono ?_)
  rintro e w8 ⟨rfl, hb8⟩
  have A8 := A7.over hb8; have B8 := B7.over hb8; have Q8 := Q7.over hb8; have R8 := R7.over hb8; have hbw8 : Below w.heap.size w w8 := below_call hb8 hbw7; have a8 := A8.all; have b8 := B8.all; have q8 := Q8.all; have r8 := R8.all; clear hb8 a7 b7 q7 r7
  clear A7 B7 Q7 R7 hbw7
  go_wp2_with fail
  (with_reducible refine (hNx2.out _).mono ?_)
  rintro e w9 ⟨rfl, hb9⟩
  have Q9 := (Q8.set3 n q2).over hb9
  have R9 := (R8.far3 (by omega)).over hb9
  have hbw9 : Below w.heap.size w w9 := below_call hb9 (by
    repeat' (first | (with_reducible refine Below.setCell ?_ ?_ _))
    all_goals (first | exact hbw8 | (show w.heap.size ≤ _ + 1; omega)))
  have q9 := Q9.all
  have r9 := R9.all
  clear hb9 a8 b8 q8 r8 A8 B8 Q8 R8 hbw8
  go_wp2_with fail
  (with_reducible refine (hGr.out _).mono ?_)
  rintro e w10 ⟨rfl, hb10⟩
  have Q10 := Q9.over hb10
  have R10 := R9.over hb10
  have hbw10 : Below w.heap.size w w10 := below_call hb10 hbw9
  have q10 := Q10.all
  have r10 := R10.all
  clear hb10 q9 r9 Q9 R9 hbw9
  go_wp2_with fail
  have Q11 := Q10.far3 (d := w.heap.size + 1 + 1 + 1) (i := 0) (j := 1) (k := 2) (u := .int .i64 (n : Int)) (v := .int .u64 ((lo r2 : Nat) : Int)) (z := .int .u64 ((hi r2 : Nat) : Int)) (by omega)
  have R11 := R10.set3 n r2
  have q11 := Q11.all
  have r11 := R11.all
  clear Q10 R10 q10 r10 Q11 R11
  go_region
  all_goals
    go_wp2
    refine bodyPost_ret (v := .tuple #[vv n q2, vv n r2]) (by simp [results, Tryz.results131, go_sem, q11, r11]) rfl ⟨rfl, ?_⟩
    repeat' (first | (with_reducible refine Below.drew ?_) | (with_reducible refine Below.setCell ?_ ?_ _))
    all_goals (first | exact hbw10 | (show w.heap.size ≤ _ + 1; omega))
set_option maxRecDepth 100000 in
set_option maxHeartbeats 1000000 in
theorem divS_tt (n x y mx my q r q2 r2 : Nat) (w : World)
    (hz : ∀ w, Calls Tryz.prog 117 #[vv n y] w (RV w (.bool false)))
    (hMx : ∀ w, Calls Tryz.prog 143 #[vv n x] w (RV w (vv n mx)))
    (hMy : ∀ w, Calls Tryz.prog 143 #[vv n y] w (RV w (vv n my)))
    (hDv : ∀ w, Calls Tryz.prog 130 #[vv n mx, vv n my] w (RV w (.tuple #[vv n q, vv n r])))
    (hNx : ∀ w, Calls Tryz.prog 137 #[vv n x] w (RV w (.bool true)))
    (hNy : ∀ w, Calls Tryz.prog 137 #[vv n y] w (RV w (.bool true)))
    (hGq : ∀ w, Calls Tryz.prog 114 #[vv n q] w (RV w (vv n q2)))
    (hGr : ∀ w, Calls Tryz.prog 114 #[vv n r] w (RV w (vv n r2))) :
    Calls Tryz.prog 131 #[vv n x, vv n y] w (RV w (.tuple #[vv n q, vv n r2])) := by
  replace hz := Lib.hid hz
  replace hMx := Lib.hid hMx
  replace hMy := Lib.hid hMy
  replace hDv := Lib.hid hDv
  replace hNx := Lib.hid hNx
  replace hNy := Lib.hid hNy
  replace hGq := Lib.hid hGq
  replace hGr := Lib.hid hGr
  go_enter Tryz.func131, Tryz.ntmps131
  go_wp2_with (go_at_call 117; (with_reducible refine (hz.out _).mono ?_); rintro e w1 ⟨rfl, hb1⟩; obtain ⟨A1, B1, Q1, R1, hbw1⟩ := start4 hb1; have a1 := A1.all; have b1 := B1.all; have q1 := Q1.all; have r1 := R1.all; clear hb1)
  go_region_held3 (fun w' => (w'.cell? ⟨w.heap.size, 0, none⟩ = some (.int .i64 (n : Int)) ∧ w'.cell? ⟨w.heap.size, 1, none⟩ = some (.int .u64 ((lo x : Nat) : Int)) ∧ w'.cell? ⟨w.heap.size, 2, none⟩ = some (.int .u64 ((hi x : Nat) : Int))) ∧ (w'.cell? ⟨w.heap.size + 1, 0, none⟩ = some (.int .i64 (n : Int)) ∧ w'.cell? ⟨w.heap.size + 1, 1, none⟩ = some (.int .u64 ((lo y : Nat) : Int)) ∧ w'.cell? ⟨w.heap.size + 1, 2, none⟩ = some (.int .u64 ((hi y : Nat) : Int))))
    (first | (with_reducible exact ⟨A1.drew.keep3, B1.drew.keep3⟩) | (with_reducible exact ⟨A2.keep3, B2.keep3⟩) | (with_reducible exact ⟨A3.keep3, B3.keep3⟩) | (with_reducible exact ⟨A4.keep3, B4.keep3⟩) | (with_reducible exact ⟨(A4.far3 (by omega)).keep3, (B4.far3 (by omega)).keep3⟩) | (with_reducible exact ⟨((A4.far3 (by omega)).far3 (by omega)).keep3, ((B4.far3 (by omega)).far3 (by omega)).keep3⟩))
    (first
      | (go_at_call 143; (with_reducible refine (hMx.out _).mono ?_); clear hMx; rintro e w2 ⟨rfl, hb2⟩; have A2 := A1.drew.over hb2; have B2 := B1.drew.over hb2; have Q2 := Q1.drew.over hb2; have R2 := R1.drew.over hb2; have hbw2 : Below w.heap.size w w2 := below_call hb2 hbw1.drew; have a2 := A2.all; have b2 := B2.all; have q2 := Q2.all; have r2 := R2.all; clear hb2 a1 b1 q1 r1)
      | (go_at_call 143; (with_reducible refine (hMy.out _).mono ?_); clear hMy; rintro e w3 ⟨rfl, hb3⟩; have A3 := A2.over hb3; have B3 := B2.over hb3; have Q3 := Q2.over hb3; have R3 := R2.over hb3; have hbw3 : Below w.heap.size w w3 := below_call hb3 hbw2; have a3 := A3.all; have b3 := B3.all; have q3 := Q3.all; have r3 := R3.all; clear hb3 a2 b2 q2 r2)
      | (go_at_call 130; (with_reducible refine (hDv.out _).mono ?_); clear hDv; rintro e w4 ⟨rfl, hb4⟩; have A4 := A3.over hb4; have B4 := B3.over hb4; have Q4 := Q3.over hb4; have R4 := R3.over hb4; have hbw4 : Below w.heap.size w w4 := below_call hb4 hbw3; have a4 := A4.all; have b4 := B4.all; have q4 := Q4.all; have r4 := R4.all; clear hb4 a3 b3 q3 r3))
  clear A1 B1 Q1 R1 hbw1 A2 B2 Q2 R2 hbw2 A3 B3 Q3 R3 hbw3
  have A5 := (A4.far3 (d := w.heap.size + 1 + 1) (i := 0) (j := 1) (k := 2) (u := .int .i64 (n : Int)) (v := .int .u64 ((lo q : Nat) : Int)) (z := .int .u64 ((hi q : Nat) : Int)) (by omega)).far3 (d := w.heap.size + 1 + 1 + 1) (i := 0) (j := 1) (k := 2) (u := .int .i64 (n : Int)) (v := .int .u64 ((lo r : Nat) : Int)) (z := .int .u64 ((hi r : Nat) : Int)) (by omega)
  have B5 := (B4.far3 (d := w.heap.size + 1 + 1) (i := 0) (j := 1) (k := 2) (u := .int .i64 (n : Int)) (v := .int .u64 ((lo q : Nat) : Int)) (z := .int .u64 ((hi q : Nat) : Int)) (by omega)).far3 (d := w.heap.size + 1 + 1 + 1) (i := 0) (j := 1) (k := 2) (u := .int .i64 (n : Int)) (v := .int .u64 ((lo r : Nat) : Int)) (z := .int .u64 ((hi r : Nat) : Int)) (by omega)
  have Q5 := (Q4.set3 n q).far3 (d := w.heap.size + 1 + 1 + 1) (i := 0) (j := 1) (k := 2) (u := .int .i64 (n : Int)) (v := .int .u64 ((lo r : Nat) : Int)) (z := .int .u64 ((hi r : Nat) : Int)) (by omega)
  have R5 := (R4.far3 (d := w.heap.size + 1 + 1) (i := 0) (j := 1) (k := 2) (u := .int .i64 (n : Int)) (v := .int .u64 ((lo q : Nat) : Int)) (z := .int .u64 ((hi q : Nat) : Int)) (by omega)).set3 n r
  have hbw5 : Below w.heap.size w ((((((w4.setCell ⟨w.heap.size + 1 + 1, 0, none⟩ (.int .i64 (n : Int))).setCell ⟨w.heap.size + 1 + 1, 1, none⟩ (.int .u64 ((lo q : Nat) : Int))).setCell ⟨w.heap.size + 1 + 1, 2, none⟩ (.int .u64 ((hi q : Nat) : Int))).setCell ⟨w.heap.size + 1 + 1 + 1, 0, none⟩ (.int .i64 (n : Int))).setCell ⟨w.heap.size + 1 + 1 + 1, 1, none⟩ (.int .u64 ((lo r : Nat) : Int))).setCell ⟨w.heap.size + 1 + 1 + 1, 2, none⟩ (.int .u64 ((hi r : Nat) : Int))) := by
    repeat' (first | (with_reducible refine Below.setCell ?_ ?_ _))
    all_goals (first | exact hbw4 | (show w.heap.size ≤ _ + 1; omega))
  clear A4 B4 Q4 R4 hbw4 a4 b4 q4 r4
  go_wp2_with fail
  go_region_held3 (fun w' => (w'.cell? ⟨w.heap.size, 0, none⟩ = some (.int .i64 (n : Int)) ∧ w'.cell? ⟨w.heap.size, 1, none⟩ = some (.int .u64 ((lo x : Nat) : Int)) ∧ w'.cell? ⟨w.heap.size, 2, none⟩ = some (.int .u64 ((hi x : Nat) : Int))) ∧ (w'.cell? ⟨w.heap.size + 1, 0, none⟩ = some (.int .i64 (n : Int)) ∧ w'.cell? ⟨w.heap.size + 1, 1, none⟩ = some (.int .u64 ((lo y : Nat) : Int)) ∧ w'.cell? ⟨w.heap.size + 1, 2, none⟩ = some (.int .u64 ((hi y : Nat) : Int))))
    (first | (with_reducible exact ⟨A5.drew.keep3, B5.drew.keep3⟩) | (with_reducible exact ⟨A6.keep3, B6.keep3⟩) | (with_reducible exact ⟨A7.keep3, B7.keep3⟩))
    (first
      | (go_at_call 137; (with_reducible refine (hNx.out _).mono ?_); have hNx2 := hNx; clear hNx; rintro e w6 ⟨rfl, hb6⟩; have A6 := A5.drew.over hb6; have B6 := B5.drew.over hb6; have Q6 := Q5.drew.over hb6; have R6 := R5.drew.over hb6; have hbw6 : Below w.heap.size w w6 := below_call hb6 hbw5.drew; have a6 := A6.all; have b6 := B6.all; have q6 := Q6.all; have r6 := R6.all; clear hb6 )
      | (go_at_call 137; (with_reducible refine (hNy.out _).mono ?_); clear hNy; rintro e w7 ⟨rfl, hb7⟩; have A7 := A6.over hb7; have B7 := B6.over hb7; have Q7 := Q6.over hb7; have R7 := R6.over hb7; have hbw7 : Below w.heap.size w w7 := below_call hb7 hbw6; have a7 := A7.all; have b7 := B7.all; have q7 := Q7.all; have r7 := R7.all; clear hb7 a6 b6 q6 r6))
  clear A5 B5 Q5 R5 hbw5 A6 B6 Q6 R6 hbw6
  go_wp2_with fail
  (with_reducible refine (hNx2.out _).mono ?_)
  rintro e w9 ⟨rfl, hb9⟩
  have Q9 := Q7.over hb9
  have R9 := R7.over hb9
  have hbw9 : Below w.heap.size w w9 := below_call hb9 hbw7
  have q9 := Q9.all
  have r9 := R9.all
  clear hb9 a7 b7 q7 r7 A7 B7 Q7 R7 hbw7
  go_wp2_with fail
  (with_reducible refine (hGr.out _).mono ?_)
  rintro e w10 ⟨rfl, hb10⟩
  have Q10 := Q9.over hb10
  have R10 := R9.over hb10
  have hbw10 : Below w.heap.size w w10 := below_call hb10 hbw9
  have q10 := Q10.all
  have r10 := R10.all
  clear hb10 q9 r9 Q9 R9 hbw9
  go_wp2_with fail
  have Q11 := Q10.far3 (d := w.heap.size + 1 + 1 + 1) (i := 0) (j := 1) (k := 2) (u := .int .i64 (n : Int)) (v := .int .u64 ((lo r2 : Nat) : Int)) (z := .int .u64 ((hi r2 : Nat) : Int)) (by omega)
  have R11 := R10.set3 n r2
  have q11 := Q11.all
  have r11 := R11.all
  clear Q10 R10 q10 r10 Q11 R11
  go_region
  all_goals
    go_wp2
    refine bodyPost_ret (v := .tuple #[vv n q, vv n r2]) (by simp [results, Tryz.results131, go_sem, q11, r11]) rfl ⟨rfl, ?_⟩
    repeat' (first | (with_reducible refine Below.drew ?_) | (with_reducible refine Below.setCell ?_ ?_ _))
    all_goals (first | exact hbw10 | (show w.heap.size ≤ _ + 1; omega))
end Go.Proofs.YtdjaikglkgabdaaGreatDoor
