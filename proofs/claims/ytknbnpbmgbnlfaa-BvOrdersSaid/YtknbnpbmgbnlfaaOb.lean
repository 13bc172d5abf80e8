/-
  The walk of the statement BvOrders.
-/
import Derived.Test.YtknbnpbmgbnlfaaWy
import Derived.Test.YtknbnpbmgbnlfaaWz
import Derived.Test.YtknbnpbmgbnlfaaRt
namespace Go.Proofs.Ytknbnpbmgbnlfaa
open Go.RowKit
set_option maxRecDepth 1000000 in
set_option maxHeartbeats 40000000 in
theorem Orders_eq (n ca cb mb x y H u v p q : Nat) (A B : Option Addr) (f g : Nat → Bool) (w : World) (h1 : 1 ≤ n) (hn : n ≤ 128)
    (hA : RB w A n f) (hB : RB w B mb g)
    (hx : ∀ w, RB w A n f → Calls Try.prog 25 #[.slice A n ca] w (RV w (vv n x)))
    (hy : ∀ w b, RB w (some ⟨b, 0, none⟩) n (fun j => decide (j < mb) && g j) → Calls Try.prog 25 #[.slice (some ⟨b, 0, none⟩) n n] w (RV w (vv n y)))
    (hN0 : ∀ (w : World) (g : Nat), g = w.heap.size → Calls Try.prog 15 #[.int .i64 (n : Int), .slice (some ⟨g, 0, none⟩) 1 1] (w.alloc (.cells #[.int .u64 0] 26)) (RV (w.alloc (.cells #[.int .u64 0] 26)) (.tuple #[vv n 0, .int .i64 0])))
    (hN1 : ∀ (w : World) (g : Nat), g = w.heap.size → Calls Try.prog 15 #[.int .i64 1, .slice (some ⟨g, 0, none⟩) 1 1] (w.alloc (.cells #[.int .u64 1] 26)) (RV (w.alloc (.cells #[.int .u64 1] 26)) (.tuple #[vv 1 1, .int .i64 0])))
    (hP : ∀ w, Calls Try.prog 32 #[vv n 0, .int .i64 ((n : Int) - 1), vv 1 1] w (RV w (.tuple #[vv n H, .int .i64 0])))
    (hX : ∀ w, Calls Try.prog 26 #[.int .i64 9, vv n x, vv n H] w (RV w (.tuple #[vv n u, .int .i64 0])))
    (hY : ∀ w, Calls Try.prog 26 #[.int .i64 9, vv n y, vv n H] w (RV w (.tuple #[vv n v, .int .i64 0])))
    (c1 : ∀ w, Calls Try.prog 42 #[.int .i64 15, vv n x, vv n y] w (RV w (.int .i64 0)))
    (c2 : ∀ w, Calls Try.prog 42 #[.int .i64 15, vv n y, vv n x] w (RV w (.int .i64 0)))
    (c3 : ∀ w, Calls Try.prog 42 #[.int .i64 13, vv n x, vv n y] w (RV w (.int .i64 1)))
    (c4 : ∀ w, Calls Try.prog 42 #[.int .i64 16, vv n x, vv n y] w (RV w (.int .i64 1)))
    (c5 : ∀ w, Calls Try.prog 42 #[.int .i64 14, vv n x, vv n y] w (RV w (.int .i64 0)))
    (c6 : ∀ w, Calls Try.prog 42 #[.int .i64 17, vv n x, vv n y] w (RV w (.int .i64 (p : Int))))
    (c7 : ∀ w, Calls Try.prog 42 #[.int .i64 15, vv n u, vv n v] w (RV w (.int .i64 (p : Int))))
    (c8 : ∀ w, Calls Try.prog 42 #[.int .i64 18, vv n x, vv n y] w (RV w (.int .i64 (q : Int))))
    (c9 : ∀ w, Calls Try.prog 42 #[.int .i64 16, vv n u, vv n v] w (RV w (.int .i64 (q : Int)))) :
    Calls Try.prog 10 #[.slice A n ca, .slice B mb cb] w (RV w (.bool true)) := by
  have hS := Lib.hid (fun w => short_le n ca A w (by omega))
  have hFB := Lib.hid (fun w (h : RB w B mb g) => fit_ok n mb cb B g w hn h)
  replace hx := Lib.hid hx
  replace hy := Lib.hid hy
  replace hN0 := Lib.hid hN0
  replace hN1 := Lib.hid hN1
  replace hP := Lib.hid hP
  replace hX := Lib.hid hX
  replace hY := Lib.hid hY
  replace hA := Lib.hid hA
  replace hB := Lib.hid hB
  replace c1 := Lib.hid c1
  replace c2 := Lib.hid c2
  replace c3 := Lib.hid c3
  replace c4 := Lib.hid c4
  replace c5 := Lib.hid c5
  replace c6 := Lib.hid c6
  replace c7 := Lib.hid c7
  replace c8 := Lib.hid c8
  replace c9 := Lib.hid c9
  have n0 : ((n : Int) == 0) = false := by simp; omega
  have n128 : ¬ (128 < n) := by omega
  have wn : IntKind.i64.wrap ((n : Int) - 1) = (n : Int) - 1 := IntWalk.i64_in _ (by omega)
  go_enter Try.func10, Try.ntmps10
  go_wp2_with fail
  (with_reducible refine (awake_t _).mono ?_)
  rintro e w1 ⟨rfl, hbw1⟩
  go_wp2_with fail
  (with_reducible refine (hS.out _).mono ?_)
  rintro e w0 ⟨rfl, rfl⟩
  go_wp2_with fail
  (with_reducible refine (hx.out _ (hA.out.keep hbw1)).mono ?_)
  rintro e w2 ⟨rfl, hb2⟩
  have hbw2 : Below w.heap.size w w2 := below_call hb2 hbw1
  clear hb2 hbw1
  go_wp2_with fail
  (with_reducible refine (hFB.out _ (hB.out.keep hbw2)).mono ?_)
  rintro e w3 ⟨b3, rfl, R3, hb3⟩
  have hbw3 : Below w.heap.size w w3 := below_call hb3 hbw2
  replace R3 := Lib.hid R3
  clear hb3 hbw2
  go_wp2_with fail
  (with_reducible refine (hy.out _ _ R3.out).mono ?_)
  rintro e w4 ⟨rfl, hb4⟩
  have hbw4 : Below w.heap.size w w4 := below_call hb4 hbw3
  have z4 := hbw4.size
  clear hb4 hbw3 R3
  have Y0 : HV 29 ((w4.alloc (.cells (vcs n x) 29)).alloc (.cells (vcs n y) 29)) (w4.heap.size + 1) n y := by
    have h := HV.new (w4.alloc (.cells (vcs n x) 29)) 29 n y
    rw [World.size_alloc] at h
    exact h
  go_wp2_with fail
  (with_reducible refine (hN0.out _ _ (by simp)).mono ?_)
  rintro e w5 ⟨rfl, hb5⟩
  have hbw5 : Below w.heap.size w w5 := below_call hb5 (by go_grown)
  have z5 := hbw5.size
  have Xh' : HV 29 w5 (w4.heap.size) n x := (((HV.new w4 29 n x).alloc _).alloc _).over hb5
  have Yh' : HV 29 w5 (w4.heap.size + 1) n y := (Y0.alloc _).over hb5
  have Xh := Xh'
  clear Xh'
  have Xa := Xh.all
  have Xl := Xh.lt
  have Yh := Yh'
  clear Yh'
  have Ya := Yh.all
  have Yl := Yh.lt
  clear hb5
  clear Y0
  have dX : ¬ w4.heap.size = w5.heap.size := by omega
  have dY : ¬ w4.heap.size + 1 = w5.heap.size := by omega
  go_wp2_with fail
  (with_reducible refine (hN1.out _ _ (by simp)).mono ?_)
  rintro e w6 ⟨rfl, hb6⟩
  have hbw6 : Below w.heap.size w w6 := below_call hb6 (by go_grown)
  have z6 := hbw6.size
  have Xh' : HV 29 w6 (w4.heap.size) n x := ((Xh.alloc _).alloc _).over hb6
  have Yh' : HV 29 w6 (w4.heap.size + 1) n y := ((Yh.alloc _).alloc _).over hb6
  have Hh' : HV 29 w6 (w5.heap.size) n 0 := ((HV.new w5 29 n 0).alloc _).over hb6
  clear Xa Xl Xh
  clear Ya Yl Yh
  have Xh := Xh'
  clear Xh'
  have Xa := Xh.all
  have Xl := Xh.lt
  have Yh := Yh'
  clear Yh'
  have Ya := Yh.all
  have Yl := Yh.lt
  have Hh := Hh'
  clear Hh'
  have Ha := Hh.all
  have Hl := Hh.lt
  clear hb6
  go_wp2_with fail
  refine (hP.out _).mono ?_
  rintro e w7 ⟨rfl, hb7⟩
  have hbw7 : Below w.heap.size w w7 := below_call hb7 (by go_grown)
  have z7 := hbw7.size
  have Xh' : HV 29 w7 (w4.heap.size) n x := (Xh.alloc _).over hb7
  have Yh' : HV 29 w7 (w4.heap.size + 1) n y := (Yh.alloc _).over hb7
  have Hh' : HV 29 w7 (w5.heap.size) n 0 := (Hh.alloc _).over hb7
  clear Xa Xl Xh
  clear Ya Yl Yh
  clear Ha Hl Hh
  have Xh := Xh'
  clear Xh'
  have Xa := Xh.all
  have Xl := Xh.lt
  have Yh := Yh'
  clear Yh'
  have Ya := Yh.all
  have Yl := Yh.lt
  have Hh := Hh'
  clear Hh'
  have Ha := Hh.all
  have Hl := Hh.lt
  clear hb7
  go_wp2_with fail
  (with_reducible refine (hX.out _).mono ?_)
  rintro e w8 ⟨rfl, hb8⟩
  have hbw8 : Below w.heap.size w w8 := below_call hb8 (by
    repeat' (first | (with_reducible refine Below.setCell ?_ ?_ _))
    all_goals (first | exact hbw7 | (dsimp only; omega)))
  have z8 := hbw8.size
  have Xh' : HV 29 w8 (w4.heap.size) n x := (Xh.far3 (by assumption)).over hb8
  have Yh' : HV 29 w8 (w4.heap.size + 1) n y := (Yh.far3 (by assumption)).over hb8
  have Hh' : HV 29 w8 (w5.heap.size) n H := (Hh.set3 n H).over hb8
  clear Xa Xl Xh
  clear Ya Yl Yh
  clear Ha Hl Hh
  have Xh := Xh'
  clear Xh'
  have Xa := Xh.all
  have Xl := Xh.lt
  have Yh := Yh'
  clear Yh'
  have Ya := Yh.all
  have Yl := Yh.lt
  have Hh := Hh'
  clear Hh'
  have Ha := Hh.all
  have Hl := Hh.lt
  clear hb8
  go_wp2_with fail
  (with_reducible refine (hY.out _).mono ?_)
  rintro e w9 ⟨rfl, hb9⟩
  have hbw9 : Below w.heap.size w w9 := below_call hb9 (by go_grown)
  have z9 := hbw9.size
  have Xh' : HV 29 w9 (w4.heap.size) n x := (Xh.alloc _).over hb9
  have Yh' : HV 29 w9 (w4.heap.size + 1) n y := (Yh.alloc _).over hb9
  have Hh' : HV 29 w9 (w5.heap.size) n H := (Hh.alloc _).over hb9
  have Uh' : HV 29 w9 (w8.heap.size) n u := (HV.new w8 29 n u).over hb9
  clear Xa Xl Xh
  clear Ya Yl Yh
  clear Ha Hl Hh
  have Xh := Xh'
  clear Xh'
  have Xa := Xh.all
  have Xl := Xh.lt
  have Yh := Yh'
  clear Yh'
  have Ya := Yh.all
  have Yl := Yh.lt
  have Hh := Hh'
  clear Hh'
  have Ha := Hh.all
  have Hl := Hh.lt
  have Uh := Uh'
  clear Uh'
  have Ua := Uh.all
  have Ul := Uh.lt
  clear hb9
  clear Ha Hl Hh
  go_wp2_with fail
  have X9 := (Xh.alloc (.cells (vcs n v) 29))
  have Y9 := (Yh.alloc (.cells (vcs n v) 29))
  have U9 := (Uh.alloc (.cells (vcs n v) 29))
  have V9 := HV.new w9 29 n v
  have hbv9 : Below w.heap.size w (w9.alloc (.cells (vcs n v) 29)) := by go_grown
  clear Xh Yh Uh Xa Ya Ua Xl Yl Ul dX dY z4 z5 z6 z7 z8 z9 n128 n0 hbw4 hbw5 hbw6 hbw7 hbw8
  simp only [List.append_eq, List.cons_append, List.nil_append]
  refine region_anyT (n := 65) (S := fun w' => (w'.cell? ⟨w4.heap.size, 0, none⟩ = some (.int .i64 (n : Int)) ∧ w'.cell? ⟨w4.heap.size, 1, none⟩ = some (.int .u64 ((lo x : Nat) : Int)) ∧ w'.cell? ⟨w4.heap.size, 2, none⟩ = some (.int .u64 ((hi x : Nat) : Int))) ∧ (w'.cell? ⟨w4.heap.size + 1, 0, none⟩ = some (.int .i64 (n : Int)) ∧ w'.cell? ⟨w4.heap.size + 1, 1, none⟩ = some (.int .u64 ((lo y : Nat) : Int)) ∧ w'.cell? ⟨w4.heap.size + 1, 2, none⟩ = some (.int .u64 ((hi y : Nat) : Int))) ∧ (w'.cell? ⟨w8.heap.size, 0, none⟩ = some (.int .i64 (n : Int)) ∧ w'.cell? ⟨w8.heap.size, 1, none⟩ = some (.int .u64 ((lo u : Nat) : Int)) ∧ w'.cell? ⟨w8.heap.size, 2, none⟩ = some (.int .u64 ((hi u : Nat) : Int))) ∧ (w'.cell? ⟨w9.heap.size, 0, none⟩ = some (.int .i64 (n : Int)) ∧ w'.cell? ⟨w9.heap.size, 1, none⟩ = some (.int .u64 ((lo v : Nat) : Int)) ∧ w'.cell? ⟨w9.heap.size, 2, none⟩ = some (.int .u64 ((hi v : Nat) : Int)))) (by kernel_rfl) ?_
  have hS0 : (fun w' : World => (w'.cell? ⟨w4.heap.size, 0, none⟩ = some (.int .i64 (n : Int)) ∧ w'.cell? ⟨w4.heap.size, 1, none⟩ = some (.int .u64 ((lo x : Nat) : Int)) ∧ w'.cell? ⟨w4.heap.size, 2, none⟩ = some (.int .u64 ((hi x : Nat) : Int))) ∧ (w'.cell? ⟨w4.heap.size + 1, 0, none⟩ = some (.int .i64 (n : Int)) ∧ w'.cell? ⟨w4.heap.size + 1, 1, none⟩ = some (.int .u64 ((lo y : Nat) : Int)) ∧ w'.cell? ⟨w4.heap.size + 1, 2, none⟩ = some (.int .u64 ((hi y : Nat) : Int))) ∧ (w'.cell? ⟨w8.heap.size, 0, none⟩ = some (.int .i64 (n : Int)) ∧ w'.cell? ⟨w8.heap.size, 1, none⟩ = some (.int .u64 ((lo u : Nat) : Int)) ∧ w'.cell? ⟨w8.heap.size, 2, none⟩ = some (.int .u64 ((hi u : Nat) : Int))) ∧ (w'.cell? ⟨w9.heap.size, 0, none⟩ = some (.int .i64 (n : Int)) ∧ w'.cell? ⟨w9.heap.size, 1, none⟩ = some (.int .u64 ((lo v : Nat) : Int)) ∧ w'.cell? ⟨w9.heap.size, 2, none⟩ = some (.int .u64 ((hi v : Nat) : Int)))) (w9.alloc (.cells (vcs n v) 29)).drew := ⟨X9.drew.keep3, Y9.drew.keep3, U9.drew.keep3, V9.drew.keep3⟩
  refine anyT_take (i := 0) (v := .int .i64 0) rfl (by kernel_rfl) (by kernel_rfl) (fun _ _ _ h => h) (Or.inl ⟨by kernel_rfl, ?_⟩) hS0 ?_
  · intro w' hw'
    obtain ⟨⟨k1, k2, k3⟩, ⟨k4, k5, k6⟩, ⟨k7, k8, k9⟩, k10, k11, k12⟩ := hw'
    go_simp
    all_goals (first | (with_reducible rfl) | decide)
  try simp only [Act.put, List.getElem_toArray, List.getElem_cons_zero, List.getElem_cons_succ, List.setIfInBounds_toArray, List.set_cons_zero, List.set_cons_succ]
  refine anyT_take (i := 1) (v := .bool true) rfl (by kernel_rfl) (by kernel_rfl) (fun _ _ _ h => h) (Or.inl ⟨by kernel_rfl, ?_⟩) hS0 ?_
  · intro w' hw'
    obtain ⟨⟨k1, k2, k3⟩, ⟨k4, k5, k6⟩, ⟨k7, k8, k9⟩, k10, k11, k12⟩ := hw'
    go_simp
    all_goals (first | (with_reducible rfl) | decide)
  try simp only [Act.put, List.getElem_toArray, List.getElem_cons_zero, List.getElem_cons_succ, List.setIfInBounds_toArray, List.set_cons_zero, List.set_cons_succ]
  refine anyT_take (i := 2) (v := .bool true) rfl (by kernel_rfl) (by kernel_rfl) (fun _ _ _ h => h) (Or.inl ⟨by kernel_rfl, ?_⟩) hS0 ?_
  · intro w' hw'
    obtain ⟨⟨k1, k2, k3⟩, ⟨k4, k5, k6⟩, ⟨k7, k8, k9⟩, k10, k11, k12⟩ := hw'
    go_simp
    all_goals (first | (with_reducible rfl) | decide)
  try simp only [Act.put, List.getElem_toArray, List.getElem_cons_zero, List.getElem_cons_succ, List.setIfInBounds_toArray, List.set_cons_zero, List.set_cons_succ]
  refine anyT_take (i := 3) (v := .func (.func 42) #[] #[]) rfl (by kernel_rfl) (by kernel_rfl) (fun _ _ _ h => h) (Or.inl ⟨by kernel_rfl, ?_⟩) hS0 ?_
  · intro w' hw'
    obtain ⟨⟨k1, k2, k3⟩, ⟨k4, k5, k6⟩, ⟨k7, k8, k9⟩, k10, k11, k12⟩ := hw'
    go_simp
    all_goals (first | (with_reducible rfl) | decide)
  try simp only [Act.put, List.getElem_toArray, List.getElem_cons_zero, List.getElem_cons_succ, List.setIfInBounds_toArray, List.set_cons_zero, List.set_cons_succ]
  refine anyT_take (i := 4) (v := vv n x) rfl (by kernel_rfl) (by kernel_rfl) (fun _ _ _ h => h) (Or.inl ⟨by kernel_rfl, ?_⟩) hS0 ?_
  · intro w' hw'
    obtain ⟨⟨k1, k2, k3⟩, ⟨k4, k5, k6⟩, ⟨k7, k8, k9⟩, k10, k11, k12⟩ := hw'
    go_simp
    all_goals (first | (with_reducible rfl) | decide)
  try simp only [Act.put, List.getElem_toArray, List.getElem_cons_zero, List.getElem_cons_succ, List.setIfInBounds_toArray, List.set_cons_zero, List.set_cons_succ]
  refine anyT_take (i := 5) (v := vv n y) rfl (by kernel_rfl) (by kernel_rfl) (fun _ _ _ h => h) (Or.inl ⟨by kernel_rfl, ?_⟩) hS0 ?_
  · intro w' hw'
    obtain ⟨⟨k1, k2, k3⟩, ⟨k4, k5, k6⟩, ⟨k7, k8, k9⟩, k10, k11, k12⟩ := hw'
    go_simp
    all_goals (first | (with_reducible rfl) | decide)
  try simp only [Act.put, List.getElem_toArray, List.getElem_cons_zero, List.getElem_cons_succ, List.setIfInBounds_toArray, List.set_cons_zero, List.set_cons_succ]
  refine anyT_take (i := 7) (v := .func (.func 42) #[] #[]) rfl (by kernel_rfl) (by kernel_rfl) (fun _ _ _ h => h) (Or.inl ⟨by kernel_rfl, ?_⟩) hS0 ?_
  · intro w' hw'
    obtain ⟨⟨k1, k2, k3⟩, ⟨k4, k5, k6⟩, ⟨k7, k8, k9⟩, k10, k11, k12⟩ := hw'
    go_simp
    all_goals (first | (with_reducible rfl) | decide)
  try simp only [Act.put, List.getElem_toArray, List.getElem_cons_zero, List.getElem_cons_succ, List.setIfInBounds_toArray, List.set_cons_zero, List.set_cons_succ]
  refine anyT_take (i := 8) (v := vv n y) rfl (by kernel_rfl) (by kernel_rfl) (fun _ _ _ h => h) (Or.inl ⟨by kernel_rfl, ?_⟩) hS0 ?_
  · intro w' hw'
    obtain ⟨⟨k1, k2, k3⟩, ⟨k4, k5, k6⟩, ⟨k7, k8, k9⟩, k10, k11, k12⟩ := hw'
    go_simp
    all_goals (first | (with_reducible rfl) | decide)
  try simp only [Act.put, List.getElem_toArray, List.getElem_cons_zero, List.getElem_cons_succ, List.setIfInBounds_toArray, List.set_cons_zero, List.set_cons_succ]
  refine anyT_take (i := 9) (v := vv n x) rfl (by kernel_rfl) (by kernel_rfl) (fun _ _ _ h => h) (Or.inl ⟨by kernel_rfl, ?_⟩) hS0 ?_
  · intro w' hw'
    obtain ⟨⟨k1, k2, k3⟩, ⟨k4, k5, k6⟩, ⟨k7, k8, k9⟩, k10, k11, k12⟩ := hw'
    go_simp
    all_goals (first | (with_reducible rfl) | decide)
  try simp only [Act.put, List.getElem_toArray, List.getElem_cons_zero, List.getElem_cons_succ, List.setIfInBounds_toArray, List.set_cons_zero, List.set_cons_succ]
  refine anyT_take (i := 12) (v := .func (.func 42) #[] #[]) rfl (by kernel_rfl) (by kernel_rfl) (fun _ _ _ h => h) (Or.inl ⟨by kernel_rfl, ?_⟩) hS0 ?_
  · intro w' hw'
    obtain ⟨⟨k1, k2, k3⟩, ⟨k4, k5, k6⟩, ⟨k7, k8, k9⟩, k10, k11, k12⟩ := hw'
    go_simp
    all_goals (first | (with_reducible rfl) | decide)
  try simp only [Act.put, List.getElem_toArray, List.getElem_cons_zero, List.getElem_cons_succ, List.setIfInBounds_toArray, List.set_cons_zero, List.set_cons_succ]
  refine anyT_take (i := 13) (v := vv n x) rfl (by kernel_rfl) (by kernel_rfl) (fun _ _ _ h => h) (Or.inl ⟨by kernel_rfl, ?_⟩) hS0 ?_
  · intro w' hw'
    obtain ⟨⟨k1, k2, k3⟩, ⟨k4, k5, k6⟩, ⟨k7, k8, k9⟩, k10, k11, k12⟩ := hw'
    go_simp
    all_goals (first | (with_reducible rfl) | decide)
  try simp only [Act.put, List.getElem_toArray, List.getElem_cons_zero, List.getElem_cons_succ, List.setIfInBounds_toArray, List.set_cons_zero, List.set_cons_succ]
  refine anyT_take (i := 14) (v := vv n y) rfl (by kernel_rfl) (by kernel_rfl) (fun _ _ _ h => h) (Or.inl ⟨by kernel_rfl, ?_⟩) hS0 ?_
  · intro w' hw'
    obtain ⟨⟨k1, k2, k3⟩, ⟨k4, k5, k6⟩, ⟨k7, k8, k9⟩, k10, k11, k12⟩ := hw'
    go_simp
    all_goals (first | (with_reducible rfl) | decide)
  try simp only [Act.put, List.getElem_toArray, List.getElem_cons_zero, List.getElem_cons_succ, List.setIfInBounds_toArray, List.set_cons_zero, List.set_cons_succ]
  refine anyT_one (i := 6) (by kernel_rfl) ?_
  refine wpOp_step rfl (fun K hK => ?_)
  replace hK := Lib.hid hK
  go_simp
  (with_reducible refine (c1.out _).mono ?_)
  rintro e w10 ⟨rfl, hb10⟩
  have X10 := X9.drew.over hb10
  have Y10 := Y9.drew.over hb10
  have U10 := U9.drew.over hb10
  have V10 := V9.drew.over hb10
  have hbw10 : Below w.heap.size w w10 := below_call hb10 hbv9.drew
  clear hS0
  have hS0 : (fun w' : World => (w'.cell? ⟨w4.heap.size, 0, none⟩ = some (.int .i64 (n : Int)) ∧ w'.cell? ⟨w4.heap.size, 1, none⟩ = some (.int .u64 ((lo x : Nat) : Int)) ∧ w'.cell? ⟨w4.heap.size, 2, none⟩ = some (.int .u64 ((hi x : Nat) : Int))) ∧ (w'.cell? ⟨w4.heap.size + 1, 0, none⟩ = some (.int .i64 (n : Int)) ∧ w'.cell? ⟨w4.heap.size + 1, 1, none⟩ = some (.int .u64 ((lo y : Nat) : Int)) ∧ w'.cell? ⟨w4.heap.size + 1, 2, none⟩ = some (.int .u64 ((hi y : Nat) : Int))) ∧ (w'.cell? ⟨w8.heap.size, 0, none⟩ = some (.int .i64 (n : Int)) ∧ w'.cell? ⟨w8.heap.size, 1, none⟩ = some (.int .u64 ((lo u : Nat) : Int)) ∧ w'.cell? ⟨w8.heap.size, 2, none⟩ = some (.int .u64 ((hi u : Nat) : Int))) ∧ (w'.cell? ⟨w9.heap.size, 0, none⟩ = some (.int .i64 (n : Int)) ∧ w'.cell? ⟨w9.heap.size, 1, none⟩ = some (.int .u64 ((lo v : Nat) : Int)) ∧ w'.cell? ⟨w9.heap.size, 2, none⟩ = some (.int .u64 ((hi v : Nat) : Int)))) w10 := ⟨X10.keep3, Y10.keep3, U10.keep3, V10.keep3⟩
  clear hb10 X9 Y9 U9 V9 hbv9
  refine hK.out _ _ ⟨fun _ => hS0, ?_⟩
  clear hK K
  try simp only [Act.put, List.getElem_toArray, List.getElem_cons_zero, List.getElem_cons_succ, List.setIfInBounds_toArray, List.set_cons_zero, List.set_cons_succ]
  refine anyT_one (i := 10) (by kernel_rfl) ?_
  refine wpOp_step rfl (fun K hK => ?_)
  replace hK := Lib.hid hK
  go_simp
  (with_reducible refine (c2.out _).mono ?_)
  rintro e w11 ⟨rfl, hb11⟩
  have X11 := X10.over hb11
  have Y11 := Y10.over hb11
  have U11 := U10.over hb11
  have V11 := V10.over hb11
  have hbw11 : Below w.heap.size w w11 := below_call hb11 hbw10
  clear hS0
  have hS0 : (fun w' : World => (w'.cell? ⟨w4.heap.size, 0, none⟩ = some (.int .i64 (n : Int)) ∧ w'.cell? ⟨w4.heap.size, 1, none⟩ = some (.int .u64 ((lo x : Nat) : Int)) ∧ w'.cell? ⟨w4.heap.size, 2, none⟩ = some (.int .u64 ((hi x : Nat) : Int))) ∧ (w'.cell? ⟨w4.heap.size + 1, 0, none⟩ = some (.int .i64 (n : Int)) ∧ w'.cell? ⟨w4.heap.size + 1, 1, none⟩ = some (.int .u64 ((lo y : Nat) : Int)) ∧ w'.cell? ⟨w4.heap.size + 1, 2, none⟩ = some (.int .u64 ((hi y : Nat) : Int))) ∧ (w'.cell? ⟨w8.heap.size, 0, none⟩ = some (.int .i64 (n : Int)) ∧ w'.cell? ⟨w8.heap.size, 1, none⟩ = some (.int .u64 ((lo u : Nat) : Int)) ∧ w'.cell? ⟨w8.heap.size, 2, none⟩ = some (.int .u64 ((hi u : Nat) : Int))) ∧ (w'.cell? ⟨w9.heap.size, 0, none⟩ = some (.int .i64 (n : Int)) ∧ w'.cell? ⟨w9.heap.size, 1, none⟩ = some (.int .u64 ((lo v : Nat) : Int)) ∧ w'.cell? ⟨w9.heap.size, 2, none⟩ = some (.int .u64 ((hi v : Nat) : Int)))) w11 := ⟨X11.keep3, Y11.keep3, U11.keep3, V11.keep3⟩
  clear hb11 X10 Y10 U10 V10 hbw10
  refine hK.out _ _ ⟨fun _ => hS0, ?_⟩
  clear hK K
  try simp only [Act.put, List.getElem_toArray, List.getElem_cons_zero, List.getElem_cons_succ, List.setIfInBounds_toArray, List.set_cons_zero, List.set_cons_succ]
  refine anyT_take (i := 11) (v := .int .i64 0) rfl (by kernel_rfl) (by kernel_rfl) (fun _ _ _ h => h) (Or.inl ⟨by kernel_rfl, ?_⟩) hS0 ?_
  · intro w' hw'
    obtain ⟨⟨k1, k2, k3⟩, ⟨k4, k5, k6⟩, ⟨k7, k8, k9⟩, k10, k11, k12⟩ := hw'
    go_simp
    all_goals (first | (with_reducible rfl) | decide)
  try simp only [Act.put, List.getElem_toArray, List.getElem_cons_zero, List.getElem_cons_succ, List.setIfInBounds_toArray, List.set_cons_zero, List.set_cons_succ]
  refine anyT_one (i := 15) (by kernel_rfl) ?_
  refine wpOp_step rfl (fun K hK => ?_)
  replace hK := Lib.hid hK
  go_simp
  (with_reducible refine (c3.out _).mono ?_)
  rintro e w12 ⟨rfl, hb12⟩
  have X12 := X11.over hb12
  have Y12 := Y11.over hb12
  have U12 := U11.over hb12
  have V12 := V11.over hb12
  have hbw12 : Below w.heap.size w w12 := below_call hb12 hbw11
  clear hS0
  have hS0 : (fun w' : World => (w'.cell? ⟨w4.heap.size, 0, none⟩ = some (.int .i64 (n : Int)) ∧ w'.cell? ⟨w4.heap.size, 1, none⟩ = some (.int .u64 ((lo x : Nat) : Int)) ∧ w'.cell? ⟨w4.heap.size, 2, none⟩ = some (.int .u64 ((hi x : Nat) : Int))) ∧ (w'.cell? ⟨w4.heap.size + 1, 0, none⟩ = some (.int .i64 (n : Int)) ∧ w'.cell? ⟨w4.heap.size + 1, 1, none⟩ = some (.int .u64 ((lo y : Nat) : Int)) ∧ w'.cell? ⟨w4.heap.size + 1, 2, none⟩ = some (.int .u64 ((hi y : Nat) : Int))) ∧ (w'.cell? ⟨w8.heap.size, 0, none⟩ = some (.int .i64 (n : Int)) ∧ w'.cell? ⟨w8.heap.size, 1, none⟩ = some (.int .u64 ((lo u : Nat) : Int)) ∧ w'.cell? ⟨w8.heap.size, 2, none⟩ = some (.int .u64 ((hi u : Nat) : Int))) ∧ (w'.cell? ⟨w9.heap.size, 0, none⟩ = some (.int .i64 (n : Int)) ∧ w'.cell? ⟨w9.heap.size, 1, none⟩ = some (.int .u64 ((lo v : Nat) : Int)) ∧ w'.cell? ⟨w9.heap.size, 2, none⟩ = some (.int .u64 ((hi v : Nat) : Int)))) w12 := ⟨X12.keep3, Y12.keep3, U12.keep3, V12.keep3⟩
  clear hb12 X11 Y11 U11 V11 hbw11
  refine hK.out _ _ ⟨fun _ => hS0, ?_⟩
  clear hK K
  try simp only [Act.put, List.getElem_toArray, List.getElem_cons_zero, List.getElem_cons_succ, List.setIfInBounds_toArray, List.set_cons_zero, List.set_cons_succ]
  refine anyT_take (i := 16) (v := .int .i64 1) rfl (by kernel_rfl) (by kernel_rfl) (fun _ _ _ h => h) (Or.inl ⟨by kernel_rfl, ?_⟩) hS0 ?_
  · intro w' hw'
    obtain ⟨⟨k1, k2, k3⟩, ⟨k4, k5, k6⟩, ⟨k7, k8, k9⟩, k10, k11, k12⟩ := hw'
    go_simp
    all_goals (first | (with_reducible rfl) | decide)
  try simp only [Act.put, List.getElem_toArray, List.getElem_cons_zero, List.getElem_cons_succ, List.setIfInBounds_toArray, List.set_cons_zero, List.set_cons_succ]
  refine anyT_take (i := 17) (v := .bool true) rfl (by kernel_rfl) (by kernel_rfl) (fun _ _ _ h => h) (Or.inl ⟨by kernel_rfl, ?_⟩) hS0 ?_
  · intro w' hw'
    obtain ⟨⟨k1, k2, k3⟩, ⟨k4, k5, k6⟩, ⟨k7, k8, k9⟩, k10, k11, k12⟩ := hw'
    go_simp
    all_goals (first | (with_reducible rfl) | decide)
  try simp only [Act.put, List.getElem_toArray, List.getElem_cons_zero, List.getElem_cons_succ, List.setIfInBounds_toArray, List.set_cons_zero, List.set_cons_succ]
  refine anyT_take (i := 18) (v := .bool true) rfl (by kernel_rfl) (by kernel_rfl) (fun _ _ _ h => h) (Or.inl ⟨by kernel_rfl, ?_⟩) hS0 ?_
  · intro w' hw'
    obtain ⟨⟨k1, k2, k3⟩, ⟨k4, k5, k6⟩, ⟨k7, k8, k9⟩, k10, k11, k12⟩ := hw'
    go_simp
    all_goals (first | (with_reducible rfl) | decide)
  try simp only [Act.put, List.getElem_toArray, List.getElem_cons_zero, List.getElem_cons_succ, List.setIfInBounds_toArray, List.set_cons_zero, List.set_cons_succ]
  refine anyT_take (i := 19) (v := .bool true) rfl (by kernel_rfl) (by kernel_rfl) (fun _ _ _ h => h) (Or.inl ⟨by kernel_rfl, ?_⟩) hS0 ?_
  · intro w' hw'
    obtain ⟨⟨k1, k2, k3⟩, ⟨k4, k5, k6⟩, ⟨k7, k8, k9⟩, k10, k11, k12⟩ := hw'
    go_simp
    all_goals (first | (with_reducible rfl) | decide)
  try simp only [Act.put, List.getElem_toArray, List.getElem_cons_zero, List.getElem_cons_succ, List.setIfInBounds_toArray, List.set_cons_zero, List.set_cons_succ]
  refine anyT_take (i := 20) (v := .func (.func 42) #[] #[]) rfl (by kernel_rfl) (by kernel_rfl) (fun _ _ _ h => h) (Or.inl ⟨by kernel_rfl, ?_⟩) hS0 ?_
  · intro w' hw'
    obtain ⟨⟨k1, k2, k3⟩, ⟨k4, k5, k6⟩, ⟨k7, k8, k9⟩, k10, k11, k12⟩ := hw'
    go_simp
    all_goals (first | (with_reducible rfl) | decide)
  try simp only [Act.put, List.getElem_toArray, List.getElem_cons_zero, List.getElem_cons_succ, List.setIfInBounds_toArray, List.set_cons_zero, List.set_cons_succ]
  refine anyT_take (i := 21) (v := vv n x) rfl (by kernel_rfl) (by kernel_rfl) (fun _ _ _ h => h) (Or.inl ⟨by kernel_rfl, ?_⟩) hS0 ?_
  · intro w' hw'
    obtain ⟨⟨k1, k2, k3⟩, ⟨k4, k5, k6⟩, ⟨k7, k8, k9⟩, k10, k11, k12⟩ := hw'
    go_simp
    all_goals (first | (with_reducible rfl) | decide)
  try simp only [Act.put, List.getElem_toArray, List.getElem_cons_zero, List.getElem_cons_succ, List.setIfInBounds_toArray, List.set_cons_zero, List.set_cons_succ]
  refine anyT_take (i := 22) (v := vv n y) rfl (by kernel_rfl) (by kernel_rfl) (fun _ _ _ h => h) (Or.inl ⟨by kernel_rfl, ?_⟩) hS0 ?_
  · intro w' hw'
    obtain ⟨⟨k1, k2, k3⟩, ⟨k4, k5, k6⟩, ⟨k7, k8, k9⟩, k10, k11, k12⟩ := hw'
    go_simp
    all_goals (first | (with_reducible rfl) | decide)
  try simp only [Act.put, List.getElem_toArray, List.getElem_cons_zero, List.getElem_cons_succ, List.setIfInBounds_toArray, List.set_cons_zero, List.set_cons_succ]
  refine anyT_take (i := 24) (v := .func (.func 42) #[] #[]) rfl (by kernel_rfl) (by kernel_rfl) (fun _ _ _ h => h) (Or.inl ⟨by kernel_rfl, ?_⟩) hS0 ?_
  · intro w' hw'
    obtain ⟨⟨k1, k2, k3⟩, ⟨k4, k5, k6⟩, ⟨k7, k8, k9⟩, k10, k11, k12⟩ := hw'
    go_simp
    all_goals (first | (with_reducible rfl) | decide)
  try simp only [Act.put, List.getElem_toArray, List.getElem_cons_zero, List.getElem_cons_succ, List.setIfInBounds_toArray, List.set_cons_zero, List.set_cons_succ]
  refine anyT_take (i := 25) (v := vv n y) rfl (by kernel_rfl) (by kernel_rfl) (fun _ _ _ h => h) (Or.inl ⟨by kernel_rfl, ?_⟩) hS0 ?_
  · intro w' hw'
    obtain ⟨⟨k1, k2, k3⟩, ⟨k4, k5, k6⟩, ⟨k7, k8, k9⟩, k10, k11, k12⟩ := hw'
    go_simp
    all_goals (first | (with_reducible rfl) | decide)
  try simp only [Act.put, List.getElem_toArray, List.getElem_cons_zero, List.getElem_cons_succ, List.setIfInBounds_toArray, List.set_cons_zero, List.set_cons_succ]
  refine anyT_take (i := 26) (v := vv n x) rfl (by kernel_rfl) (by kernel_rfl) (fun _ _ _ h => h) (Or.inl ⟨by kernel_rfl, ?_⟩) hS0 ?_
  · intro w' hw'
    obtain ⟨⟨k1, k2, k3⟩, ⟨k4, k5, k6⟩, ⟨k7, k8, k9⟩, k10, k11, k12⟩ := hw'
    go_simp
    all_goals (first | (with_reducible rfl) | decide)
  try simp only [Act.put, List.getElem_toArray, List.getElem_cons_zero, List.getElem_cons_succ, List.setIfInBounds_toArray, List.set_cons_zero, List.set_cons_succ]
  refine anyT_one (i := 23) (by kernel_rfl) ?_
  refine wpOp_step rfl (fun K hK => ?_)
  replace hK := Lib.hid hK
  go_simp
  (with_reducible refine (c4.out _).mono ?_)
  rintro e w13 ⟨rfl, hb13⟩
  have X13 := X12.over hb13
  have Y13 := Y12.over hb13
  have U13 := U12.over hb13
  have V13 := V12.over hb13
  have hbw13 : Below w.heap.size w w13 := below_call hb13 hbw12
  clear hS0
  have hS0 : (fun w' : World => (w'.cell? ⟨w4.heap.size, 0, none⟩ = some (.int .i64 (n : Int)) ∧ w'.cell? ⟨w4.heap.size, 1, none⟩ = some (.int .u64 ((lo x : Nat) : Int)) ∧ w'.cell? ⟨w4.heap.size, 2, none⟩ = some (.int .u64 ((hi x : Nat) : Int))) ∧ (w'.cell? ⟨w4.heap.size + 1, 0, none⟩ = some (.int .i64 (n : Int)) ∧ w'.cell? ⟨w4.heap.size + 1, 1, none⟩ = some (.int .u64 ((lo y : Nat) : Int)) ∧ w'.cell? ⟨w4.heap.size + 1, 2, none⟩ = some (.int .u64 ((hi y : Nat) : Int))) ∧ (w'.cell? ⟨w8.heap.size, 0, none⟩ = some (.int .i64 (n : Int)) ∧ w'.cell? ⟨w8.heap.size, 1, none⟩ = some (.int .u64 ((lo u : Nat) : Int)) ∧ w'.cell? ⟨w8.heap.size, 2, none⟩ = some (.int .u64 ((hi u : Nat) : Int))) ∧ (w'.cell? ⟨w9.heap.size, 0, none⟩ = some (.int .i64 (n : Int)) ∧ w'.cell? ⟨w9.heap.size, 1, none⟩ = some (.int .u64 ((lo v : Nat) : Int)) ∧ w'.cell? ⟨w9.heap.size, 2, none⟩ = some (.int .u64 ((hi v : Nat) : Int)))) w13 := ⟨X13.keep3, Y13.keep3, U13.keep3, V13.keep3⟩
  clear hb13 X12 Y12 U12 V12 hbw12
  refine hK.out _ _ ⟨fun _ => hS0, ?_⟩
  clear hK K
  try simp only [Act.put, List.getElem_toArray, List.getElem_cons_zero, List.getElem_cons_succ, List.setIfInBounds_toArray, List.set_cons_zero, List.set_cons_succ]
  refine anyT_one (i := 27) (by kernel_rfl) ?_
  refine wpOp_step rfl (fun K hK => ?_)
  replace hK := Lib.hid hK
  go_simp
  (with_reducible refine (c2.out _).mono ?_)
  rintro e w14 ⟨rfl, hb14⟩
  have X14 := X13.over hb14
  have Y14 := Y13.over hb14
  have U14 := U13.over hb14
  have V14 := V13.over hb14
  have hbw14 : Below w.heap.size w w14 := below_call hb14 hbw13
  clear hS0
  have hS0 : (fun w' : World => (w'.cell? ⟨w4.heap.size, 0, none⟩ = some (.int .i64 (n : Int)) ∧ w'.cell? ⟨w4.heap.size, 1, none⟩ = some (.int .u64 ((lo x : Nat) : Int)) ∧ w'.cell? ⟨w4.heap.size, 2, none⟩ = some (.int .u64 ((hi x : Nat) : Int))) ∧ (w'.cell? ⟨w4.heap.size + 1, 0, none⟩ = some (.int .i64 (n : Int)) ∧ w'.cell? ⟨w4.heap.size + 1, 1, none⟩ = some (.int .u64 ((lo y : Nat) : Int)) ∧ w'.cell? ⟨w4.heap.size + 1, 2, none⟩ = some (.int .u64 ((hi y : Nat) : Int))) ∧ (w'.cell? ⟨w8.heap.size, 0, none⟩ = some (.int .i64 (n : Int)) ∧ w'.cell? ⟨w8.heap.size, 1, none⟩ = some (.int .u64 ((lo u : Nat) : Int)) ∧ w'.cell? ⟨w8.heap.size, 2, none⟩ = some (.int .u64 ((hi u : Nat) : Int))) ∧ (w'.cell? ⟨w9.heap.size, 0, none⟩ = some (.int .i64 (n : Int)) ∧ w'.cell? ⟨w9.heap.size, 1, none⟩ = some (.int .u64 ((lo v : Nat) : Int)) ∧ w'.cell? ⟨w9.heap.size, 2, none⟩ = some (.int .u64 ((hi v : Nat) : Int)))) w14 := ⟨X14.keep3, Y14.keep3, U14.keep3, V14.keep3⟩
  clear hb14 X13 Y13 U13 V13 hbw13
  refine hK.out _ _ ⟨fun _ => hS0, ?_⟩
  clear hK K
  try simp only [Act.put, List.getElem_toArray, List.getElem_cons_zero, List.getElem_cons_succ, List.setIfInBounds_toArray, List.set_cons_zero, List.set_cons_succ]
  refine anyT_take (i := 28) (v := .int .i64 1) rfl (by kernel_rfl) (by kernel_rfl) (fun _ _ _ h => h) (Or.inl ⟨by kernel_rfl, ?_⟩) hS0 ?_
  · intro w' hw'
    obtain ⟨⟨k1, k2, k3⟩, ⟨k4, k5, k6⟩, ⟨k7, k8, k9⟩, k10, k11, k12⟩ := hw'
    go_simp
    all_goals (first | (with_reducible rfl) | decide)
  try simp only [Act.put, List.getElem_toArray, List.getElem_cons_zero, List.getElem_cons_succ, List.setIfInBounds_toArray, List.set_cons_zero, List.set_cons_succ]
  refine anyT_take (i := 29) (v := .bool true) rfl (by kernel_rfl) (by kernel_rfl) (fun _ _ _ h => h) (Or.inl ⟨by kernel_rfl, ?_⟩) hS0 ?_
  · intro w' hw'
    obtain ⟨⟨k1, k2, k3⟩, ⟨k4, k5, k6⟩, ⟨k7, k8, k9⟩, k10, k11, k12⟩ := hw'
    go_simp
    all_goals (first | (with_reducible rfl) | decide)
  try simp only [Act.put, List.getElem_toArray, List.getElem_cons_zero, List.getElem_cons_succ, List.setIfInBounds_toArray, List.set_cons_zero, List.set_cons_succ]
  refine anyT_take (i := 30) (v := .bool true) rfl (by kernel_rfl) (by kernel_rfl) (fun _ _ _ h => h) (Or.inl ⟨by kernel_rfl, ?_⟩) hS0 ?_
  · intro w' hw'
    obtain ⟨⟨k1, k2, k3⟩, ⟨k4, k5, k6⟩, ⟨k7, k8, k9⟩, k10, k11, k12⟩ := hw'
    go_simp
    all_goals (first | (with_reducible rfl) | decide)
  try simp only [Act.put, List.getElem_toArray, List.getElem_cons_zero, List.getElem_cons_succ, List.setIfInBounds_toArray, List.set_cons_zero, List.set_cons_succ]
  refine anyT_take (i := 31) (v := .bool true) rfl (by kernel_rfl) (by kernel_rfl) (fun _ _ _ h => h) (Or.inl ⟨by kernel_rfl, ?_⟩) hS0 ?_
  · intro w' hw'
    obtain ⟨⟨k1, k2, k3⟩, ⟨k4, k5, k6⟩, ⟨k7, k8, k9⟩, k10, k11, k12⟩ := hw'
    go_simp
    all_goals (first | (with_reducible rfl) | decide)
  try simp only [Act.put, List.getElem_toArray, List.getElem_cons_zero, List.getElem_cons_succ, List.setIfInBounds_toArray, List.set_cons_zero, List.set_cons_succ]
  refine anyT_take (i := 32) (v := .func (.func 42) #[] #[]) rfl (by kernel_rfl) (by kernel_rfl) (fun _ _ _ h => h) (Or.inl ⟨by kernel_rfl, ?_⟩) hS0 ?_
  · intro w' hw'
    obtain ⟨⟨k1, k2, k3⟩, ⟨k4, k5, k6⟩, ⟨k7, k8, k9⟩, k10, k11, k12⟩ := hw'
    go_simp
    all_goals (first | (with_reducible rfl) | decide)
  try simp only [Act.put, List.getElem_toArray, List.getElem_cons_zero, List.getElem_cons_succ, List.setIfInBounds_toArray, List.set_cons_zero, List.set_cons_succ]
  refine anyT_take (i := 33) (v := vv n x) rfl (by kernel_rfl) (by kernel_rfl) (fun _ _ _ h => h) (Or.inl ⟨by kernel_rfl, ?_⟩) hS0 ?_
  · intro w' hw'
    obtain ⟨⟨k1, k2, k3⟩, ⟨k4, k5, k6⟩, ⟨k7, k8, k9⟩, k10, k11, k12⟩ := hw'
    go_simp
    all_goals (first | (with_reducible rfl) | decide)
  try simp only [Act.put, List.getElem_toArray, List.getElem_cons_zero, List.getElem_cons_succ, List.setIfInBounds_toArray, List.set_cons_zero, List.set_cons_succ]
  refine anyT_take (i := 34) (v := vv n y) rfl (by kernel_rfl) (by kernel_rfl) (fun _ _ _ h => h) (Or.inl ⟨by kernel_rfl, ?_⟩) hS0 ?_
  · intro w' hw'
    obtain ⟨⟨k1, k2, k3⟩, ⟨k4, k5, k6⟩, ⟨k7, k8, k9⟩, k10, k11, k12⟩ := hw'
    go_simp
    all_goals (first | (with_reducible rfl) | decide)
  try simp only [Act.put, List.getElem_toArray, List.getElem_cons_zero, List.getElem_cons_succ, List.setIfInBounds_toArray, List.set_cons_zero, List.set_cons_succ]
  refine anyT_take (i := 36) (v := .func (.func 42) #[] #[]) rfl (by kernel_rfl) (by kernel_rfl) (fun _ _ _ h => h) (Or.inl ⟨by kernel_rfl, ?_⟩) hS0 ?_
  · intro w' hw'
    obtain ⟨⟨k1, k2, k3⟩, ⟨k4, k5, k6⟩, ⟨k7, k8, k9⟩, k10, k11, k12⟩ := hw'
    go_simp
    all_goals (first | (with_reducible rfl) | decide)
  try simp only [Act.put, List.getElem_toArray, List.getElem_cons_zero, List.getElem_cons_succ, List.setIfInBounds_toArray, List.set_cons_zero, List.set_cons_succ]
  refine anyT_take (i := 37) (v := vv n x) rfl (by kernel_rfl) (by kernel_rfl) (fun _ _ _ h => h) (Or.inl ⟨by kernel_rfl, ?_⟩) hS0 ?_
  · intro w' hw'
    obtain ⟨⟨k1, k2, k3⟩, ⟨k4, k5, k6⟩, ⟨k7, k8, k9⟩, k10, k11, k12⟩ := hw'
    go_simp
    all_goals (first | (with_reducible rfl) | decide)
  try simp only [Act.put, List.getElem_toArray, List.getElem_cons_zero, List.getElem_cons_succ, List.setIfInBounds_toArray, List.set_cons_zero, List.set_cons_succ]
  refine anyT_take (i := 38) (v := vv n y) rfl (by kernel_rfl) (by kernel_rfl) (fun _ _ _ h => h) (Or.inl ⟨by kernel_rfl, ?_⟩) hS0 ?_
  · intro w' hw'
    obtain ⟨⟨k1, k2, k3⟩, ⟨k4, k5, k6⟩, ⟨k7, k8, k9⟩, k10, k11, k12⟩ := hw'
    go_simp
    all_goals (first | (with_reducible rfl) | decide)
  try simp only [Act.put, List.getElem_toArray, List.getElem_cons_zero, List.getElem_cons_succ, List.setIfInBounds_toArray, List.set_cons_zero, List.set_cons_succ]
  refine anyT_one (i := 35) (by kernel_rfl) ?_
  refine wpOp_step rfl (fun K hK => ?_)
  replace hK := Lib.hid hK
  go_simp
  (with_reducible refine (c5.out _).mono ?_)
  rintro e w15 ⟨rfl, hb15⟩
  have X15 := X14.over hb15
  have Y15 := Y14.over hb15
  have U15 := U14.over hb15
  have V15 := V14.over hb15
  have hbw15 : Below w.heap.size w w15 := below_call hb15 hbw14
  clear hS0
  have hS0 : (fun w' : World => (w'.cell? ⟨w4.heap.size, 0, none⟩ = some (.int .i64 (n : Int)) ∧ w'.cell? ⟨w4.heap.size, 1, none⟩ = some (.int .u64 ((lo x : Nat) : Int)) ∧ w'.cell? ⟨w4.heap.size, 2, none⟩ = some (.int .u64 ((hi x : Nat) : Int))) ∧ (w'.cell? ⟨w4.heap.size + 1, 0, none⟩ = some (.int .i64 (n : Int)) ∧ w'.cell? ⟨w4.heap.size + 1, 1, none⟩ = some (.int .u64 ((lo y : Nat) : Int)) ∧ w'.cell? ⟨w4.heap.size + 1, 2, none⟩ = some (.int .u64 ((hi y : Nat) : Int))) ∧ (w'.cell? ⟨w8.heap.size, 0, none⟩ = some (.int .i64 (n : Int)) ∧ w'.cell? ⟨w8.heap.size, 1, none⟩ = some (.int .u64 ((lo u : Nat) : Int)) ∧ w'.cell? ⟨w8.heap.size, 2, none⟩ = some (.int .u64 ((hi u : Nat) : Int))) ∧ (w'.cell? ⟨w9.heap.size, 0, none⟩ = some (.int .i64 (n : Int)) ∧ w'.cell? ⟨w9.heap.size, 1, none⟩ = some (.int .u64 ((lo v : Nat) : Int)) ∧ w'.cell? ⟨w9.heap.size, 2, none⟩ = some (.int .u64 ((hi v : Nat) : Int)))) w15 := ⟨X15.keep3, Y15.keep3, U15.keep3, V15.keep3⟩
  clear hb15 X14 Y14 U14 V14 hbw14
  refine hK.out _ _ ⟨fun _ => hS0, ?_⟩
  clear hK K
  try simp only [Act.put, List.getElem_toArray, List.getElem_cons_zero, List.getElem_cons_succ, List.setIfInBounds_toArray, List.set_cons_zero, List.set_cons_succ]
  refine anyT_one (i := 39) (by kernel_rfl) ?_
  refine wpOp_step rfl (fun K hK => ?_)
  replace hK := Lib.hid hK
  go_simp
  (with_reducible refine (c3.out _).mono ?_)
  rintro e w16 ⟨rfl, hb16⟩
  have X16 := X15.over hb16
  have Y16 := Y15.over hb16
  have U16 := U15.over hb16
  have V16 := V15.over hb16
  have hbw16 : Below w.heap.size w w16 := below_call hb16 hbw15
  clear hS0
  have hS0 : (fun w' : World => (w'.cell? ⟨w4.heap.size, 0, none⟩ = some (.int .i64 (n : Int)) ∧ w'.cell? ⟨w4.heap.size, 1, none⟩ = some (.int .u64 ((lo x : Nat) : Int)) ∧ w'.cell? ⟨w4.heap.size, 2, none⟩ = some (.int .u64 ((hi x : Nat) : Int))) ∧ (w'.cell? ⟨w4.heap.size + 1, 0, none⟩ = some (.int .i64 (n : Int)) ∧ w'.cell? ⟨w4.heap.size + 1, 1, none⟩ = some (.int .u64 ((lo y : Nat) : Int)) ∧ w'.cell? ⟨w4.heap.size + 1, 2, none⟩ = some (.int .u64 ((hi y : Nat) : Int))) ∧ (w'.cell? ⟨w8.heap.size, 0, none⟩ = some (.int .i64 (n : Int)) ∧ w'.cell? ⟨w8.heap.size, 1, none⟩ = some (.int .u64 ((lo u : Nat) : Int)) ∧ w'.cell? ⟨w8.heap.size, 2, none⟩ = some (.int .u64 ((hi u : Nat) : Int))) ∧ (w'.cell? ⟨w9.heap.size, 0, none⟩ = some (.int .i64 (n : Int)) ∧ w'.cell? ⟨w9.heap.size, 1, none⟩ = some (.int .u64 ((lo v : Nat) : Int)) ∧ w'.cell? ⟨w9.heap.size, 2, none⟩ = some (.int .u64 ((hi v : Nat) : Int)))) w16 := ⟨X16.keep3, Y16.keep3, U16.keep3, V16.keep3⟩
  clear hb16 X15 Y15 U15 V15 hbw15
  refine hK.out _ _ ⟨fun _ => hS0, ?_⟩
  clear hK K
  try simp only [Act.put, List.getElem_toArray, List.getElem_cons_zero, List.getElem_cons_succ, List.setIfInBounds_toArray, List.set_cons_zero, List.set_cons_succ]
  refine anyT_take (i := 40) (v := .int .i64 0) rfl (by kernel_rfl) (by kernel_rfl) (fun _ _ _ h => h) (Or.inl ⟨by kernel_rfl, ?_⟩) hS0 ?_
  · intro w' hw'
    obtain ⟨⟨k1, k2, k3⟩, ⟨k4, k5, k6⟩, ⟨k7, k8, k9⟩, k10, k11, k12⟩ := hw'
    go_simp
    all_goals (first | (with_reducible rfl) | decide)
  try simp only [Act.put, List.getElem_toArray, List.getElem_cons_zero, List.getElem_cons_succ, List.setIfInBounds_toArray, List.set_cons_zero, List.set_cons_succ]
  refine anyT_take (i := 41) (v := .bool true) rfl (by kernel_rfl) (by kernel_rfl) (fun _ _ _ h => h) (Or.inl ⟨by kernel_rfl, ?_⟩) hS0 ?_
  · intro w' hw'
    obtain ⟨⟨k1, k2, k3⟩, ⟨k4, k5, k6⟩, ⟨k7, k8, k9⟩, k10, k11, k12⟩ := hw'
    go_simp
    all_goals (first | (with_reducible rfl) | decide)
  try simp only [Act.put, List.getElem_toArray, List.getElem_cons_zero, List.getElem_cons_succ, List.setIfInBounds_toArray, List.set_cons_zero, List.set_cons_succ]
  refine anyT_take (i := 42) (v := .bool true) rfl (by kernel_rfl) (by kernel_rfl) (fun _ _ _ h => h) (Or.inl ⟨by kernel_rfl, ?_⟩) hS0 ?_
  · intro w' hw'
    obtain ⟨⟨k1, k2, k3⟩, ⟨k4, k5, k6⟩, ⟨k7, k8, k9⟩, k10, k11, k12⟩ := hw'
    go_simp
    all_goals (first | (with_reducible rfl) | decide)
  try simp only [Act.put, List.getElem_toArray, List.getElem_cons_zero, List.getElem_cons_succ, List.setIfInBounds_toArray, List.set_cons_zero, List.set_cons_succ]
  refine anyT_take (i := 43) (v := .bool true) rfl (by kernel_rfl) (by kernel_rfl) (fun _ _ _ h => h) (Or.inl ⟨by kernel_rfl, ?_⟩) hS0 ?_
  · intro w' hw'
    obtain ⟨⟨k1, k2, k3⟩, ⟨k4, k5, k6⟩, ⟨k7, k8, k9⟩, k10, k11, k12⟩ := hw'
    go_simp
    all_goals (first | (with_reducible rfl) | decide)
  try simp only [Act.put, List.getElem_toArray, List.getElem_cons_zero, List.getElem_cons_succ, List.setIfInBounds_toArray, List.set_cons_zero, List.set_cons_succ]
  refine anyT_take (i := 44) (v := .func (.func 42) #[] #[]) rfl (by kernel_rfl) (by kernel_rfl) (fun _ _ _ h => h) (Or.inl ⟨by kernel_rfl, ?_⟩) hS0 ?_
  · intro w' hw'
    obtain ⟨⟨k1, k2, k3⟩, ⟨k4, k5, k6⟩, ⟨k7, k8, k9⟩, k10, k11, k12⟩ := hw'
    go_simp
    all_goals (first | (with_reducible rfl) | decide)
  try simp only [Act.put, List.getElem_toArray, List.getElem_cons_zero, List.getElem_cons_succ, List.setIfInBounds_toArray, List.set_cons_zero, List.set_cons_succ]
  refine anyT_take (i := 45) (v := vv n x) rfl (by kernel_rfl) (by kernel_rfl) (fun _ _ _ h => h) (Or.inl ⟨by kernel_rfl, ?_⟩) hS0 ?_
  · intro w' hw'
    obtain ⟨⟨k1, k2, k3⟩, ⟨k4, k5, k6⟩, ⟨k7, k8, k9⟩, k10, k11, k12⟩ := hw'
    go_simp
    all_goals (first | (with_reducible rfl) | decide)
  try simp only [Act.put, List.getElem_toArray, List.getElem_cons_zero, List.getElem_cons_succ, List.setIfInBounds_toArray, List.set_cons_zero, List.set_cons_succ]
  refine anyT_take (i := 46) (v := vv n y) rfl (by kernel_rfl) (by kernel_rfl) (fun _ _ _ h => h) (Or.inl ⟨by kernel_rfl, ?_⟩) hS0 ?_
  · intro w' hw'
    obtain ⟨⟨k1, k2, k3⟩, ⟨k4, k5, k6⟩, ⟨k7, k8, k9⟩, k10, k11, k12⟩ := hw'
    go_simp
    all_goals (first | (with_reducible rfl) | decide)
  try simp only [Act.put, List.getElem_toArray, List.getElem_cons_zero, List.getElem_cons_succ, List.setIfInBounds_toArray, List.set_cons_zero, List.set_cons_succ]
  refine anyT_take (i := 48) (v := .func (.func 42) #[] #[]) rfl (by kernel_rfl) (by kernel_rfl) (fun _ _ _ h => h) (Or.inl ⟨by kernel_rfl, ?_⟩) hS0 ?_
  · intro w' hw'
    obtain ⟨⟨k1, k2, k3⟩, ⟨k4, k5, k6⟩, ⟨k7, k8, k9⟩, k10, k11, k12⟩ := hw'
    go_simp
    all_goals (first | (with_reducible rfl) | decide)
  try simp only [Act.put, List.getElem_toArray, List.getElem_cons_zero, List.getElem_cons_succ, List.setIfInBounds_toArray, List.set_cons_zero, List.set_cons_succ]
  refine anyT_take (i := 49) (v := vv n u) rfl (by kernel_rfl) (by kernel_rfl) (fun _ _ _ h => h) (Or.inl ⟨by kernel_rfl, ?_⟩) hS0 ?_
  · intro w' hw'
    obtain ⟨⟨k1, k2, k3⟩, ⟨k4, k5, k6⟩, ⟨k7, k8, k9⟩, k10, k11, k12⟩ := hw'
    go_simp
    all_goals (first | (with_reducible rfl) | decide)
  try simp only [Act.put, List.getElem_toArray, List.getElem_cons_zero, List.getElem_cons_succ, List.setIfInBounds_toArray, List.set_cons_zero, List.set_cons_succ]
  refine anyT_take (i := 50) (v := vv n v) rfl (by kernel_rfl) (by kernel_rfl) (fun _ _ _ h => h) (Or.inl ⟨by kernel_rfl, ?_⟩) hS0 ?_
  · intro w' hw'
    obtain ⟨⟨k1, k2, k3⟩, ⟨k4, k5, k6⟩, ⟨k7, k8, k9⟩, k10, k11, k12⟩ := hw'
    go_simp
    all_goals (first | (with_reducible rfl) | decide)
  try simp only [Act.put, List.getElem_toArray, List.getElem_cons_zero, List.getElem_cons_succ, List.setIfInBounds_toArray, List.set_cons_zero, List.set_cons_succ]
  refine anyT_one (i := 47) (by kernel_rfl) ?_
  refine wpOp_step rfl (fun K hK => ?_)
  replace hK := Lib.hid hK
  go_simp
  (with_reducible refine (c6.out _).mono ?_)
  rintro e w17 ⟨rfl, hb17⟩
  have X17 := X16.over hb17
  have Y17 := Y16.over hb17
  have U17 := U16.over hb17
  have V17 := V16.over hb17
  have hbw17 : Below w.heap.size w w17 := below_call hb17 hbw16
  clear hS0
  have hS0 : (fun w' : World => (w'.cell? ⟨w4.heap.size, 0, none⟩ = some (.int .i64 (n : Int)) ∧ w'.cell? ⟨w4.heap.size, 1, none⟩ = some (.int .u64 ((lo x : Nat) : Int)) ∧ w'.cell? ⟨w4.heap.size, 2, none⟩ = some (.int .u64 ((hi x : Nat) : Int))) ∧ (w'.cell? ⟨w4.heap.size + 1, 0, none⟩ = some (.int .i64 (n : Int)) ∧ w'.cell? ⟨w4.heap.size + 1, 1, none⟩ = some (.int .u64 ((lo y : Nat) : Int)) ∧ w'.cell? ⟨w4.heap.size + 1, 2, none⟩ = some (.int .u64 ((hi y : Nat) : Int))) ∧ (w'.cell? ⟨w8.heap.size, 0, none⟩ = some (.int .i64 (n : Int)) ∧ w'.cell? ⟨w8.heap.size, 1, none⟩ = some (.int .u64 ((lo u : Nat) : Int)) ∧ w'.cell? ⟨w8.heap.size, 2, none⟩ = some (.int .u64 ((hi u : Nat) : Int))) ∧ (w'.cell? ⟨w9.heap.size, 0, none⟩ = some (.int .i64 (n : Int)) ∧ w'.cell? ⟨w9.heap.size, 1, none⟩ = some (.int .u64 ((lo v : Nat) : Int)) ∧ w'.cell? ⟨w9.heap.size, 2, none⟩ = some (.int .u64 ((hi v : Nat) : Int)))) w17 := ⟨X17.keep3, Y17.keep3, U17.keep3, V17.keep3⟩
  clear hb17 X16 Y16 U16 V16 hbw16
  refine hK.out _ _ ⟨fun _ => hS0, ?_⟩
  clear hK K
  try simp only [Act.put, List.getElem_toArray, List.getElem_cons_zero, List.getElem_cons_succ, List.setIfInBounds_toArray, List.set_cons_zero, List.set_cons_succ]
  refine anyT_one (i := 51) (by kernel_rfl) ?_
  refine wpOp_step rfl (fun K hK => ?_)
  replace hK := Lib.hid hK
  go_simp
  (with_reducible refine (c7.out _).mono ?_)
  rintro e w18 ⟨rfl, hb18⟩
  have X18 := X17.over hb18
  have Y18 := Y17.over hb18
  have U18 := U17.over hb18
  have V18 := V17.over hb18
  have hbw18 : Below w.heap.size w w18 := below_call hb18 hbw17
  clear hS0
  have hS0 : (fun w' : World => (w'.cell? ⟨w4.heap.size, 0, none⟩ = some (.int .i64 (n : Int)) ∧ w'.cell? ⟨w4.heap.size, 1, none⟩ = some (.int .u64 ((lo x : Nat) : Int)) ∧ w'.cell? ⟨w4.heap.size, 2, none⟩ = some (.int .u64 ((hi x : Nat) : Int))) ∧ (w'.cell? ⟨w4.heap.size + 1, 0, none⟩ = some (.int .i64 (n : Int)) ∧ w'.cell? ⟨w4.heap.size + 1, 1, none⟩ = some (.int .u64 ((lo y : Nat) : Int)) ∧ w'.cell? ⟨w4.heap.size + 1, 2, none⟩ = some (.int .u64 ((hi y : Nat) : Int))) ∧ (w'.cell? ⟨w8.heap.size, 0, none⟩ = some (.int .i64 (n : Int)) ∧ w'.cell? ⟨w8.heap.size, 1, none⟩ = some (.int .u64 ((lo u : Nat) : Int)) ∧ w'.cell? ⟨w8.heap.size, 2, none⟩ = some (.int .u64 ((hi u : Nat) : Int))) ∧ (w'.cell? ⟨w9.heap.size, 0, none⟩ = some (.int .i64 (n : Int)) ∧ w'.cell? ⟨w9.heap.size, 1, none⟩ = some (.int .u64 ((lo v : Nat) : Int)) ∧ w'.cell? ⟨w9.heap.size, 2, none⟩ = some (.int .u64 ((hi v : Nat) : Int)))) w18 := ⟨X18.keep3, Y18.keep3, U18.keep3, V18.keep3⟩
  clear hb18 X17 Y17 U17 V17 hbw17
  refine hK.out _ _ ⟨fun _ => hS0, ?_⟩
  clear hK K
  try simp only [Act.put, List.getElem_toArray, List.getElem_cons_zero, List.getElem_cons_succ, List.setIfInBounds_toArray, List.set_cons_zero, List.set_cons_succ]
  refine anyT_take (i := 52) (v := .bool true) rfl (by kernel_rfl) (by kernel_rfl) (fun _ _ _ h => h) (Or.inl ⟨by kernel_rfl, ?_⟩) hS0 ?_
  · intro w' hw'
    obtain ⟨⟨k1, k2, k3⟩, ⟨k4, k5, k6⟩, ⟨k7, k8, k9⟩, k10, k11, k12⟩ := hw'
    go_simp
    all_goals (first | (with_reducible rfl) | decide)
  try simp only [Act.put, List.getElem_toArray, List.getElem_cons_zero, List.getElem_cons_succ, List.setIfInBounds_toArray, List.set_cons_zero, List.set_cons_succ]
  refine anyT_take (i := 53) (v := .bool true) rfl (by kernel_rfl) (by kernel_rfl) (fun _ _ _ h => h) (Or.inl ⟨by kernel_rfl, ?_⟩) hS0 ?_
  · intro w' hw'
    obtain ⟨⟨k1, k2, k3⟩, ⟨k4, k5, k6⟩, ⟨k7, k8, k9⟩, k10, k11, k12⟩ := hw'
    go_simp
    all_goals (first | (with_reducible rfl) | decide)
  try simp only [Act.put, List.getElem_toArray, List.getElem_cons_zero, List.getElem_cons_succ, List.setIfInBounds_toArray, List.set_cons_zero, List.set_cons_succ]
  refine anyT_take (i := 54) (v := .bool true) rfl (by kernel_rfl) (by kernel_rfl) (fun _ _ _ h => h) (Or.inl ⟨by kernel_rfl, ?_⟩) hS0 ?_
  · intro w' hw'
    obtain ⟨⟨k1, k2, k3⟩, ⟨k4, k5, k6⟩, ⟨k7, k8, k9⟩, k10, k11, k12⟩ := hw'
    go_simp
    all_goals (first | (with_reducible rfl) | decide)
  try simp only [Act.put, List.getElem_toArray, List.getElem_cons_zero, List.getElem_cons_succ, List.setIfInBounds_toArray, List.set_cons_zero, List.set_cons_succ]
  refine anyT_take (i := 55) (v := .func (.func 42) #[] #[]) rfl (by kernel_rfl) (by kernel_rfl) (fun _ _ _ h => h) (Or.inl ⟨by kernel_rfl, ?_⟩) hS0 ?_
  · intro w' hw'
    obtain ⟨⟨k1, k2, k3⟩, ⟨k4, k5, k6⟩, ⟨k7, k8, k9⟩, k10, k11, k12⟩ := hw'
    go_simp
    all_goals (first | (with_reducible rfl) | decide)
  try simp only [Act.put, List.getElem_toArray, List.getElem_cons_zero, List.getElem_cons_succ, List.setIfInBounds_toArray, List.set_cons_zero, List.set_cons_succ]
  refine anyT_take (i := 56) (v := vv n x) rfl (by kernel_rfl) (by kernel_rfl) (fun _ _ _ h => h) (Or.inl ⟨by kernel_rfl, ?_⟩) hS0 ?_
  · intro w' hw'
    obtain ⟨⟨k1, k2, k3⟩, ⟨k4, k5, k6⟩, ⟨k7, k8, k9⟩, k10, k11, k12⟩ := hw'
    go_simp
    all_goals (first | (with_reducible rfl) | decide)
  try simp only [Act.put, List.getElem_toArray, List.getElem_cons_zero, List.getElem_cons_succ, List.setIfInBounds_toArray, List.set_cons_zero, List.set_cons_succ]
  refine anyT_take (i := 57) (v := vv n y) rfl (by kernel_rfl) (by kernel_rfl) (fun _ _ _ h => h) (Or.inl ⟨by kernel_rfl, ?_⟩) hS0 ?_
  · intro w' hw'
    obtain ⟨⟨k1, k2, k3⟩, ⟨k4, k5, k6⟩, ⟨k7, k8, k9⟩, k10, k11, k12⟩ := hw'
    go_simp
    all_goals (first | (with_reducible rfl) | decide)
  try simp only [Act.put, List.getElem_toArray, List.getElem_cons_zero, List.getElem_cons_succ, List.setIfInBounds_toArray, List.set_cons_zero, List.set_cons_succ]
  refine anyT_take (i := 59) (v := .func (.func 42) #[] #[]) rfl (by kernel_rfl) (by kernel_rfl) (fun _ _ _ h => h) (Or.inl ⟨by kernel_rfl, ?_⟩) hS0 ?_
  · intro w' hw'
    obtain ⟨⟨k1, k2, k3⟩, ⟨k4, k5, k6⟩, ⟨k7, k8, k9⟩, k10, k11, k12⟩ := hw'
    go_simp
    all_goals (first | (with_reducible rfl) | decide)
  try simp only [Act.put, List.getElem_toArray, List.getElem_cons_zero, List.getElem_cons_succ, List.setIfInBounds_toArray, List.set_cons_zero, List.set_cons_succ]
  refine anyT_take (i := 60) (v := vv n u) rfl (by kernel_rfl) (by kernel_rfl) (fun _ _ _ h => h) (Or.inl ⟨by kernel_rfl, ?_⟩) hS0 ?_
  · intro w' hw'
    obtain ⟨⟨k1, k2, k3⟩, ⟨k4, k5, k6⟩, ⟨k7, k8, k9⟩, k10, k11, k12⟩ := hw'
    go_simp
    all_goals (first | (with_reducible rfl) | decide)
  try simp only [Act.put, List.getElem_toArray, List.getElem_cons_zero, List.getElem_cons_succ, List.setIfInBounds_toArray, List.set_cons_zero, List.set_cons_succ]
  refine anyT_take (i := 61) (v := vv n v) rfl (by kernel_rfl) (by kernel_rfl) (fun _ _ _ h => h) (Or.inl ⟨by kernel_rfl, ?_⟩) hS0 ?_
  · intro w' hw'
    obtain ⟨⟨k1, k2, k3⟩, ⟨k4, k5, k6⟩, ⟨k7, k8, k9⟩, k10, k11, k12⟩ := hw'
    go_simp
    all_goals (first | (with_reducible rfl) | decide)
  try simp only [Act.put, List.getElem_toArray, List.getElem_cons_zero, List.getElem_cons_succ, List.setIfInBounds_toArray, List.set_cons_zero, List.set_cons_succ]
  refine anyT_one (i := 58) (by kernel_rfl) ?_
  refine wpOp_step rfl (fun K hK => ?_)
  replace hK := Lib.hid hK
  go_simp
  (with_reducible refine (c8.out _).mono ?_)
  rintro e w19 ⟨rfl, hb19⟩
  have X19 := X18.over hb19
  have Y19 := Y18.over hb19
  have U19 := U18.over hb19
  have V19 := V18.over hb19
  have hbw19 : Below w.heap.size w w19 := below_call hb19 hbw18
  clear hS0
  have hS0 : (fun w' : World => (w'.cell? ⟨w4.heap.size, 0, none⟩ = some (.int .i64 (n : Int)) ∧ w'.cell? ⟨w4.heap.size, 1, none⟩ = some (.int .u64 ((lo x : Nat) : Int)) ∧ w'.cell? ⟨w4.heap.size, 2, none⟩ = some (.int .u64 ((hi x : Nat) : Int))) ∧ (w'.cell? ⟨w4.heap.size + 1, 0, none⟩ = some (.int .i64 (n : Int)) ∧ w'.cell? ⟨w4.heap.size + 1, 1, none⟩ = some (.int .u64 ((lo y : Nat) : Int)) ∧ w'.cell? ⟨w4.heap.size + 1, 2, none⟩ = some (.int .u64 ((hi y : Nat) : Int))) ∧ (w'.cell? ⟨w8.heap.size, 0, none⟩ = some (.int .i64 (n : Int)) ∧ w'.cell? ⟨w8.heap.size, 1, none⟩ = some (.int .u64 ((lo u : Nat) : Int)) ∧ w'.cell? ⟨w8.heap.size, 2, none⟩ = some (.int .u64 ((hi u : Nat) : Int))) ∧ (w'.cell? ⟨w9.heap.size, 0, none⟩ = some (.int .i64 (n : Int)) ∧ w'.cell? ⟨w9.heap.size, 1, none⟩ = some (.int .u64 ((lo v : Nat) : Int)) ∧ w'.cell? ⟨w9.heap.size, 2, none⟩ = some (.int .u64 ((hi v : Nat) : Int)))) w19 := ⟨X19.keep3, Y19.keep3, U19.keep3, V19.keep3⟩
  clear hb19 X18 Y18 U18 V18 hbw18
  refine hK.out _ _ ⟨fun _ => hS0, ?_⟩
  clear hK K
  try simp only [Act.put, List.getElem_toArray, List.getElem_cons_zero, List.getElem_cons_succ, List.setIfInBounds_toArray, List.set_cons_zero, List.set_cons_succ]
  refine anyT_one (i := 62) (by kernel_rfl) ?_
  refine wpOp_step rfl (fun K hK => ?_)
  replace hK := Lib.hid hK
  go_simp
  (with_reducible refine (c9.out _).mono ?_)
  rintro e w20 ⟨rfl, hb20⟩
  have X20 := X19.over hb20
  have Y20 := Y19.over hb20
  have U20 := U19.over hb20
  have V20 := V19.over hb20
  have hbw20 : Below w.heap.size w w20 := below_call hb20 hbw19
  clear hS0
  have hS0 : (fun w' : World => (w'.cell? ⟨w4.heap.size, 0, none⟩ = some (.int .i64 (n : Int)) ∧ w'.cell? ⟨w4.heap.size, 1, none⟩ = some (.int .u64 ((lo x : Nat) : Int)) ∧ w'.cell? ⟨w4.heap.size, 2, none⟩ = some (.int .u64 ((hi x : Nat) : Int))) ∧ (w'.cell? ⟨w4.heap.size + 1, 0, none⟩ = some (.int .i64 (n : Int)) ∧ w'.cell? ⟨w4.heap.size + 1, 1, none⟩ = some (.int .u64 ((lo y : Nat) : Int)) ∧ w'.cell? ⟨w4.heap.size + 1, 2, none⟩ = some (.int .u64 ((hi y : Nat) : Int))) ∧ (w'.cell? ⟨w8.heap.size, 0, none⟩ = some (.int .i64 (n : Int)) ∧ w'.cell? ⟨w8.heap.size, 1, none⟩ = some (.int .u64 ((lo u : Nat) : Int)) ∧ w'.cell? ⟨w8.heap.size, 2, none⟩ = some (.int .u64 ((hi u : Nat) : Int))) ∧ (w'.cell? ⟨w9.heap.size, 0, none⟩ = some (.int .i64 (n : Int)) ∧ w'.cell? ⟨w9.heap.size, 1, none⟩ = some (.int .u64 ((lo v : Nat) : Int)) ∧ w'.cell? ⟨w9.heap.size, 2, none⟩ = some (.int .u64 ((hi v : Nat) : Int)))) w20 := ⟨X20.keep3, Y20.keep3, U20.keep3, V20.keep3⟩
  clear hb20 X19 Y19 U19 V19 hbw19
  refine hK.out _ _ ⟨fun _ => hS0, ?_⟩
  clear hK K
  try simp only [Act.put, List.getElem_toArray, List.getElem_cons_zero, List.getElem_cons_succ, List.setIfInBounds_toArray, List.set_cons_zero, List.set_cons_succ]
  refine anyT_take (i := 63) (v := .bool true) rfl (by kernel_rfl) (by kernel_rfl) (fun _ _ _ h => h) (Or.inl ⟨by kernel_rfl, ?_⟩) hS0 ?_
  · intro w' hw'
    obtain ⟨⟨k1, k2, k3⟩, ⟨k4, k5, k6⟩, ⟨k7, k8, k9⟩, k10, k11, k12⟩ := hw'
    go_simp
    all_goals (first | (with_reducible rfl) | decide)
  try simp only [Act.put, List.getElem_toArray, List.getElem_cons_zero, List.getElem_cons_succ, List.setIfInBounds_toArray, List.set_cons_zero, List.set_cons_succ]
  refine anyT_take (i := 64) (v := .bool true) rfl (by kernel_rfl) (by kernel_rfl) (fun _ _ _ h => h) (Or.inl ⟨by kernel_rfl, ?_⟩) hS0 ?_
  · intro w' hw'
    obtain ⟨⟨k1, k2, k3⟩, ⟨k4, k5, k6⟩, ⟨k7, k8, k9⟩, k10, k11, k12⟩ := hw'
    go_simp
    all_goals (first | (with_reducible rfl) | decide)
  try simp only [Act.put, List.getElem_toArray, List.getElem_cons_zero, List.getElem_cons_succ, List.setIfInBounds_toArray, List.set_cons_zero, List.set_cons_succ]
  refine anyT_one (i := 65) (by kernel_rfl) ?_
  refine wpOp_step rfl (fun K hK => ?_)
  replace hK := Lib.hid hK
  go_simp
  refine hK.out _ _ ⟨fun h => absurd h (by decide), ?_⟩
  clear hK K
  try simp only [Act.put]
  refine anyT_done (by kernel_rfl) ?_ _
  go_wp2_with fail
  go_ret
  exact ⟨rfl, hbw20⟩
end Go.Proofs.Ytknbnpbmgbnlfaa
