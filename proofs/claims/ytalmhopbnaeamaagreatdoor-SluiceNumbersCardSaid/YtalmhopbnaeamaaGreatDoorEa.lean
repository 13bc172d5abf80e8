/-
  bv's Slice, Put and Ext where they refuse; Ext with the sign.
-/
import Derived.Test.YtalmhopbnaeamaaGreatDoorDa
import Derived.Test.YtalmhopbnaeamaaGreatDoorWv
namespace Go.Proofs.YtalmhopbnaeamaaGreatDoor
open Go.RowKit
set_option maxRecDepth 100000 in
set_option maxHeartbeats 800000 in
theorem Ext_width (n x : Nat) (m : Int) (b : Bool) (w : World) (h : m < 1 ∨ 128 < m) :
    Calls Tryz.prog 22 #[vv n x, .int .i64 m, .bool b] w (RV w (.tuple #[vv 0 0, .int .i64 2])) := by
  have hF := fun w => fits_t m w
  have ef : fitsB m = false := by unfold fitsB; simp; omega
  rw [ef] at hF
  clear ef h
  replace hF := Lib.hid hF
  go_enter Tryz.func22, Tryz.ntmps22
  go_wp2_with (go_at_call 45; (with_reducible refine (hF.out _).mono ?_); rintro e w0 ⟨rfl, rfl⟩)
  refine bodyPost_ret (v := .tuple #[.agg #[.int .i64 0, .int .u64 0, .int .u64 0], .int .i64 2]) (by simp [results, Tryz.results22, go_sem]) rfl ⟨rfl, ?_⟩
  go_grown
set_option maxRecDepth 100000 in
set_option maxHeartbeats 800000 in
theorem Ext_none (x : Nat) (m : Int) (b : Bool) (w : World) (h : 1 ≤ m ∧ m ≤ 128) :
    Calls Tryz.prog 22 #[vv 0 x, .int .i64 m, .bool b] w (RV w (.tuple #[vv 0 0, .int .i64 2])) := by
  have hF := fun w => fits_t m w
  have ef : fitsB m = true := by unfold fitsB; simp; omega
  rw [ef] at hF
  clear ef h
  replace hF := Lib.hid hF
  go_enter Tryz.func22, Tryz.ntmps22
  go_wp2_with (go_at_call 45; (with_reducible refine (hF.out _).mono ?_); rintro e w0 ⟨rfl, rfl⟩)
  refine bodyPost_ret (v := .tuple #[.agg #[.int .i64 0, .int .u64 0, .int .u64 0], .int .i64 2]) (by simp [results, Tryz.results22, go_sem]) rfl ⟨rfl, ?_⟩
  go_grown
set_option maxRecDepth 100000 in
set_option maxHeartbeats 1600000 in
theorem Ext_s (n x m : Nat) (sx : Bool) (w : World) (h0 : 1 ≤ n) (hn : n ≤ 128) (hx : x < 2 ^ n) (h1 : 1 ≤ m) (hm : m ≤ 128) (hsx : x.testBit (n - 1) = sx) :
    Calls Tryz.prog 22 #[vv n x, .int .i64 (m : Int), .bool true] w (RV w (.tuple #[vv m (if sx then 2 ^ m - 1 - (2 ^ n - 1 - x) % 2 ^ m else x % 2 ^ m), .int .i64 0])) := by
  have hF := fun w => fits_t (m : Int) w
  have ef : fitsB (m : Int) = true := by unfold fitsB; simp; omega
  rw [ef] at hF
  clear ef
  replace hF := Lib.hid hF
  have hS := fun w => isNegative_v n x w hn hx
  rw [hsx] at hS
  replace hS := Lib.hid hS
  clear hsx
  have hR := Lib.hid (fun w => resized_n n m x w hn hm hx)
  have hI1 := Lib.hid (fun w => invert_v n x w hn hx)
  have hR2 := Lib.hid (fun w => resized_n n m (2 ^ n - 1 - x) w hn hm (by have := Nat.two_pow_pos n; omega))
  have hI2 := Lib.hid (fun w => invert_v m ((2 ^ n - 1 - x) % 2 ^ m) w hm (Nat.mod_lt _ (Nat.two_pow_pos _)))
  have X0 := (HV.new w 26 n x).alloc (.cells zcs 26)
  have Z0 : HV 26 ((w.alloc (.cells (vcs n x) 26)).alloc (.cells zcs 26)) (w.heap.size + 1) 0 0 := by
    have h := HV.zero (w.alloc (.cells (vcs n x) 26)) 26
    rw [World.size_alloc] at h
    exact h
  have hbw0 : Below w.heap.size w ((w.alloc (.cells (vcs n x) 26)).alloc (.cells zcs 26)) := by go_grown
  clear hx
  cases sx
  · simp only [Bool.false_eq_true, if_false]
    generalize x % 2 ^ m = r at *
    go_enter Tryz.func22, Tryz.ntmps22
    go_wp2_with fail
    (with_reducible refine (hF.out _).mono ?_)
    rintro e w' ⟨rfl, rfl⟩
    have x0 := X0.all
    have n0 : ((n : Int) == 0) = false := by simp; omega
    go_wp2_with fail
    (with_reducible refine (hS.out _).mono ?_)
    rintro e w1 ⟨rfl, hb1⟩
    have X1 := X0.over hb1
    have Z1 := Z0.over hb1
    have hbw1 : Below w.heap.size w w1 := below_call hb1 hbw0
    have x1 := X1.all
    clear hb1 X0 Z0 hbw0 x0
    go_wp2_with fail
    (with_reducible refine (hR.out _).mono ?_)
    rintro e w2 ⟨rfl, hb2⟩
    have Z2 := Z1.over hb2
    have hbw2 : Below w.heap.size w w2 := below_call hb2 hbw1
    have z2 := Z2.all
    have s2 := hbw2.size
    clear hb2 X1 Z1 hbw1 x1
    go_wp2_with fail
    refine bodyPost_ret (v := .tuple #[vv m r, .int .i64 0]) (by simp [results, Tryz.results22, go_sem, z2]) rfl ⟨rfl, ?_⟩
    go_grown
  · simp only [if_true]
    generalize (2 ^ n - 1 - x) % 2 ^ m = r at *
    generalize 2 ^ n - 1 - x = x2 at *
    generalize 2 ^ m - 1 - r = r2 at *
    go_enter Tryz.func22, Tryz.ntmps22
    go_wp2_with fail
    (with_reducible refine (hF.out _).mono ?_)
    rintro e w' ⟨rfl, rfl⟩
    have x0 := X0.all
    have n0 : ((n : Int) == 0) = false := by simp; omega
    go_wp2_with fail
    (with_reducible refine (hS.out _).mono ?_)
    rintro e w1 ⟨rfl, hb1⟩
    have X1 := X0.over hb1
    have Z1 := Z0.over hb1
    have hbw1 : Below w.heap.size w w1 := below_call hb1 hbw0
    have x1 := X1.all
    clear hb1 X0 Z0 hbw0 x0
    go_wp2_with fail
    (with_reducible refine (hI1.out _).mono ?_)
    rintro e w2 ⟨rfl, hb2⟩
    have Z2 := Z1.over hb2
    have hbw2 : Below w.heap.size w w2 := below_call hb2 hbw1
    clear hb2 X1 Z1 hbw1 x1
    go_wp2_with fail
    (with_reducible refine (hR2.out _).mono ?_)
    rintro e w3 ⟨rfl, hb3⟩
    have Z3 := Z2.over hb3
    have hbw3 : Below w.heap.size w w3 := below_call hb3 hbw2
    clear hb3 Z2 hbw2
    go_wp2_with fail
    (with_reducible refine (hI2.out _).mono ?_)
    rintro e w4 ⟨rfl, hb4⟩
    have Z4 := Z3.over hb4
    have hbw4 : Below w.heap.size w w4 := below_call hb4 hbw3
    have z4 := Z4.all
    have s4 := hbw4.size
    clear hb4 Z3 hbw3
    go_wp2_with fail
    refine bodyPost_ret (v := .tuple #[vv m r2, .int .i64 0]) (by simp [results, Tryz.results22, go_sem, z4]) rfl ⟨rfl, ?_⟩
    go_grown
end Go.Proofs.YtalmhopbnaeamaaGreatDoor
