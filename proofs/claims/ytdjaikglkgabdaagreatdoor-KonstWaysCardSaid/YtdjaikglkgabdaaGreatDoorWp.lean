/-
  The walks of bv's Num, of shift and of Bin for shifts.
-/
import Derived.Test.YtdjaikglkgabdaaGreatDoorWg
import Derived.Test.YtdjaikglkgabdaaGreatDoorM
namespace Go.Proofs.YtdjaikglkgabdaaGreatDoor
open Go.RowKit
theorem lo_small {x : Nat} (h : hi x = 0) : lo x = x := by have := lo_hi x; rw [h] at this; omega
theorem hi_big {x : Nat} (h : hi x ≠ 0) : 2 ^ 64 ≤ x := by have := lo_hi x; omega
set_option maxHeartbeats 400000 in
theorem Num_v (n x m : Nat) (w : World) (hm : m < 2 ^ 63) :
    Calls Tryz.prog 75 #[vv n x, .int .i64 (m : Int)] w (RV w (.int .i64 ((min x m : Nat) : Int))) := by
  by_cases hh : hi x = 0
  · have hl := Lib.hid (lo_small hh)
    have h1 : (((hi x : Nat) : Int) != 0) = false := by simp [hh]
    go_enter Tryz.func75, Tryz.ntmps75
    go_wp2
    all_goals
      refine wp_loop_rounds 2 ?_
      rw [rounds_succ]
      go_wp2
      all_goals
        rw [rounds_succ]
        go_wp2
        all_goals
          go_ret
          refine ⟨?_, by go_grown⟩
          first
            | (have h : m < lo x := by assumption
               rw [hl.out] at h
               rw [Nat.min_eq_right (by omega)]; rfl)
            | (have h : ¬ m < lo x := by assumption
               rw [hl.out] at h
               rw [show min x m = lo x from by rw [hl.out]; exact Nat.min_eq_left (by omega)]; rfl)
  · have hb := Lib.hid (hi_big hh)
    have h1 : (((hi x : Nat) : Int) != 0) = true := by simp; omega
    clear hh
    go_enter Tryz.func75, Tryz.ntmps75
    go_wp2
    all_goals
      refine wp_loop_rounds 2 ?_
      rw [rounds_succ]
      go_wp2
      go_ret
      refine ⟨?_, by go_grown⟩
      have := hb.out
      rw [Nat.min_eq_right (by omega)]; rfl

def sarN (n x k : Nat) : Nat := if x.testBit (n - 1) then 2 ^ n - 1 - (2 ^ n - 1 - x) / 2 ^ k else x / 2 ^ k
theorem pow_le128 {x n : Nat} (hx : x < 2 ^ n) (hn : n ≤ 128) : x < 2 ^ 128 := Nat.lt_of_lt_of_le hx (Nat.pow_le_pow_right (by decide) hn)
set_option maxHeartbeats 400000 in
theorem shift_10 (n x k : Nat) (w : World) (hn : n ≤ 128) (hk : k ≤ 128) :
    Calls Tryz.prog 122 #[.int .i64 10, vv n x, .int .i64 (k : Int)] w (RV w (vv n (x * 2 ^ k % 2 ^ n))) := by
  have hC := fun w => shiftUp_v n x k w hn hk
  replace hC := Lib.hid hC
  go_enter Tryz.func122, Tryz.ntmps122
  go_wp2_with (go_at_call 135; (with_reducible refine (hC.out _).mono ?_); rintro e w1 ⟨rfl, hb1⟩; obtain ⟨hc1, hf1⟩ := bcell hb1)
  have hbw : Below w.heap.size w w1 := below_call hb1 (by go_grown)
  refine bodyPost_ret (v := vv n (x * 2 ^ k % 2 ^ n)) (by simp [results, Tryz.results122, go_sem, hc1]) rfl ⟨rfl, ?_⟩
  clear hb1 hc1 hf1
  go_grown
set_option maxHeartbeats 400000 in
theorem shift_11 (n x k : Nat) (w : World) (hn : n ≤ 128) (hx : x < 2 ^ n) (hk : k ≤ 128) :
    Calls Tryz.prog 122 #[.int .i64 11, vv n x, .int .i64 (k : Int)] w (RV w (vv n (x / 2 ^ k))) := by
  have hC := fun w => shiftDown_v n x k w (pow_le128 hx hn) hk
  replace hC := Lib.hid hC
  go_enter Tryz.func122, Tryz.ntmps122
  go_wp2_with (go_at_call 136; (with_reducible refine (hC.out _).mono ?_); rintro e w1 ⟨rfl, hb1⟩; obtain ⟨hc1, hf1⟩ := bcell hb1)
  have hbw : Below w.heap.size w w1 := below_call hb1 (by go_grown)
  refine bodyPost_ret (v := vv n (x / 2 ^ k)) (by simp [results, Tryz.results122, go_sem, hc1]) rfl ⟨rfl, ?_⟩
  clear hb1 hc1 hf1
  go_grown
set_option maxHeartbeats 800000 in
theorem shift_12 (n x k : Nat) (w : World) (hn : n ≤ 128) (hx : x < 2 ^ n) (hk : k ≤ 128) :
    Calls Tryz.prog 122 #[.int .i64 12, vv n x, .int .i64 (k : Int)] w (RV w (vv n (sarN n x k))) := by
  have hN := fun w => isNegative_v n x w hn hx
  have hnot : 2 ^ n - 1 - x < 2 ^ n := by have := Nat.pow_pos (n := n) (show 0 < 2 by decide); omega
  unfold sarN
  cases hb : x.testBit (n - 1)
  · simp only [Bool.false_eq_true, if_false]
    rw [hb] at hN
    replace hN := Lib.hid hN
    have hC := Lib.hid (fun w => shiftDown_v n x k w (pow_le128 hx hn) hk)
    clear hb hx hnot
    go_enter Tryz.func122, Tryz.ntmps122
    go_wp2_with (first
      | (go_at_call 137; (with_reducible refine (hN.out _).mono ?_); rintro e w1 ⟨rfl, hb1⟩; have A1 := ((HV.new w 106 n x).alloc (.cells zcs 106)).over hb1; have Z1 := (HV.zero (w.alloc (.cells (vcs n x) 106)) 106).over hb1; simp only [World.size_alloc] at Z1; have hbw1 : Below w.heap.size w w1 := below_call hb1 (by go_grown); have a1 := A1.all; have z1 := Z1.all; clear hb1)
      | (go_at_call 136; (with_reducible refine (hC.out _).mono ?_); rintro e w2 ⟨rfl, hb2⟩; have Z2 := Z1.over hb2; have hbw2 : Below w.heap.size w w2 := below_call hb2 hbw1; have z2 := Z2.all; clear hb2 a1 z1))
    refine bodyPost_ret (v := vv n (x / 2 ^ k)) (by simp [results, Tryz.results122, go_sem, z2]) rfl ⟨rfl, ?_⟩
    go_grown
  · simp only [if_true]
    rw [hb] at hN
    replace hN := Lib.hid hN
    have hI := Lib.hid (fun w => invert_v n x w hn hx)
    have hC := Lib.hid (fun w => shiftDown_v n (2 ^ n - 1 - x) k w (pow_le128 hnot hn) hk)
    have hJ := Lib.hid (fun w => invert_v n ((2 ^ n - 1 - x) / 2 ^ k) w hn (Nat.lt_of_le_of_lt (Nat.div_le_self _ _) hnot))
    clear hb hx hnot
    go_enter Tryz.func122, Tryz.ntmps122
    go_wp2_with (first
      | (go_at_call 137; (with_reducible refine (hN.out _).mono ?_); rintro e w1 ⟨rfl, hb1⟩; have A1 := ((HV.new w 106 n x).alloc (.cells zcs 106)).over hb1; have Z1 := (HV.zero (w.alloc (.cells (vcs n x) 106)) 106).over hb1; simp only [World.size_alloc] at Z1; have hbw1 : Below w.heap.size w w1 := below_call hb1 (by go_grown); have a1 := A1.all; have z1 := Z1.all; clear hb1)
      | (go_at_call 113; (with_reducible refine (hI.out _).mono ?_); rintro e w2 ⟨rfl, hb2⟩; have Z2 := Z1.over hb2; have hbw2 : Below w.heap.size w w2 := below_call hb2 hbw1; have z2 := Z2.all; clear hb2 a1 z1)
      | (go_at_call 136; (with_reducible refine (hC.out _).mono ?_); rintro e w3 ⟨rfl, hb3⟩; have Z3 := Z2.over hb3; have hbw3 : Below w.heap.size w w3 := below_call hb3 hbw2; have z3 := Z3.all; clear hb3 z2)
      | (go_at_call 113; (with_reducible refine (hJ.out _).mono ?_); rintro e w4 ⟨rfl, hb4⟩; have Z4 := Z3.over hb4; have hbw4 : Below w.heap.size w w4 := below_call hb4 hbw3; have z4 := Z4.all; clear hb4 z3))
    refine bodyPost_ret (v := vv n (2 ^ n - 1 - (2 ^ n - 1 - x) / 2 ^ k)) (by simp [results, Tryz.results122, go_sem, z4]) rfl ⟨rfl, ?_⟩
    go_grown
end Go.Proofs.YtdjaikglkgabdaaGreatDoor
