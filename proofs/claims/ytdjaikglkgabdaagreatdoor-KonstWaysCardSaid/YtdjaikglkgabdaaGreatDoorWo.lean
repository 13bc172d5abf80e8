/-
  The walks of bv's arithmetic (sum, difference, product), logic, and of Bin for these operations.
-/
import Derived.Test.YtdjaikglkgabdaaGreatDoorWe
import Derived.Test.YtdjaikglkgabdaaGreatDoorM
namespace Go.Proofs.YtdjaikglkgabdaaGreatDoor
open Go.RowKit

theorem sum_v0 (n x y : Nat) (w : World) (hn : n ≤ 128) : Calls Tryz.prog 128 #[vv n x, vv n y, .int .u64 0] w (RV w (vv n ((x + y) % 2 ^ n))) := sum_v n x y 0 w hn (by decide)

set_option maxHeartbeats 400000 in
theorem arith_0 (n x y : Nat) (w : World) (hn : n ≤ 128) :
    Calls Tryz.prog 120 #[.int .i64 0, vv n x, vv n y] w (RV w (vv n ((x + y) % 2 ^ n))) := by
  have hC := fun w => sum_v0 n x y w hn
  replace hC := Lib.hid hC
  go_enter Tryz.func120, Tryz.ntmps120
  go_wp2_with (go_at_call 128; (with_reducible refine (hC.out _).mono ?_); rintro e w1 ⟨rfl, hb1⟩; obtain ⟨hc1, hf1⟩ := bcell hb1)
  have hbw : Below w.heap.size w w1 := below_call hb1 (by go_grown)
  refine bodyPost_ret (v := vv n ((x + y) % 2 ^ n)) (by simp [results, Tryz.results120, go_sem, hc1]) rfl ⟨rfl, ?_⟩
  clear hb1 hc1 hf1
  go_grown

set_option maxHeartbeats 400000 in
theorem arith_1 (n x y : Nat) (w : World) (hn : n ≤ 128) (hy : y < 2 ^ n) :
    Calls Tryz.prog 120 #[.int .i64 1, vv n x, vv n y] w (RV w (vv n ((x + 2 ^ n - y) % 2 ^ n))) := by
  have hC := fun w => difference_v n x y w hn hy
  replace hC := Lib.hid hC
  go_enter Tryz.func120, Tryz.ntmps120
  go_wp2_with (go_at_call 126; (with_reducible refine (hC.out _).mono ?_); rintro e w1 ⟨rfl, hb1⟩; obtain ⟨hc1, hf1⟩ := bcell hb1)
  have hbw : Below w.heap.size w w1 := below_call hb1 (by go_grown)
  refine bodyPost_ret (v := vv n ((x + 2 ^ n - y) % 2 ^ n)) (by simp [results, Tryz.results120, go_sem, hc1]) rfl ⟨rfl, ?_⟩
  clear hb1 hc1 hf1
  go_grown

set_option maxHeartbeats 400000 in
theorem arith_2 (n x y : Nat) (w : World) (hn : n ≤ 128) :
    Calls Tryz.prog 120 #[.int .i64 2, vv n x, vv n y] w (RV w (vv n (x * y % 2 ^ n))) := by
  have hC := fun w => product_v n x y w hn
  replace hC := Lib.hid hC
  go_enter Tryz.func120, Tryz.ntmps120
  go_wp2_with (go_at_call 129; (with_reducible refine (hC.out _).mono ?_); rintro e w1 ⟨rfl, hb1⟩; obtain ⟨hc1, hf1⟩ := bcell hb1)
  have hbw : Below w.heap.size w w1 := below_call hb1 (by go_grown)
  refine bodyPost_ret (v := vv n (x * y % 2 ^ n)) (by simp [results, Tryz.results120, go_sem, hc1]) rfl ⟨rfl, ?_⟩
  clear hb1 hc1 hf1
  go_grown

set_option maxHeartbeats 400000 in
theorem logic_7 (n x y : Nat) (w : World) (hn : n ≤ 128) (hx : x < 2 ^ n) (hy : y < 2 ^ n) :
    Calls Tryz.prog 121 #[.int .i64 7, vv n x, vv n y] w (RV w (vv n (x &&& y))) := by
  have hC := fun w => bitwise_and n n x y w hn hx hy
  replace hC := Lib.hid hC
  go_enter Tryz.func121, Tryz.ntmps121
  go_wp2_with (go_at_call 124; (with_reducible refine (hC.out _).mono ?_); rintro e w1 ⟨rfl, hb1⟩; obtain ⟨hc1, hf1⟩ := bcell hb1)
  have hbw : Below w.heap.size w w1 := below_call hb1 (by go_grown)
  refine bodyPost_ret (v := vv n (x &&& y)) (by simp [results, Tryz.results121, go_sem, hc1]) rfl ⟨rfl, ?_⟩
  clear hb1 hc1 hf1
  go_grown

set_option maxHeartbeats 400000 in
theorem logic_8 (n x y : Nat) (w : World) (hn : n ≤ 128) (hx : x < 2 ^ n) (hy : y < 2 ^ n) :
    Calls Tryz.prog 121 #[.int .i64 8, vv n x, vv n y] w (RV w (vv n (x ||| y))) := by
  have hC := fun w => bitwise_or n n x y w hn hx hy
  replace hC := Lib.hid hC
  go_enter Tryz.func121, Tryz.ntmps121
  go_wp2_with (go_at_call 124; (with_reducible refine (hC.out _).mono ?_); rintro e w1 ⟨rfl, hb1⟩; obtain ⟨hc1, hf1⟩ := bcell hb1)
  have hbw : Below w.heap.size w w1 := below_call hb1 (by go_grown)
  refine bodyPost_ret (v := vv n (x ||| y)) (by simp [results, Tryz.results121, go_sem, hc1]) rfl ⟨rfl, ?_⟩
  clear hb1 hc1 hf1
  go_grown

set_option maxHeartbeats 400000 in
theorem logic_9 (n x y : Nat) (w : World) (hn : n ≤ 128) (hx : x < 2 ^ n) (hy : y < 2 ^ n) :
    Calls Tryz.prog 121 #[.int .i64 9, vv n x, vv n y] w (RV w (vv n (x ^^^ y))) := by
  have hC := fun w => bitwise_xor n n x y w hn hx hy
  replace hC := Lib.hid hC
  go_enter Tryz.func121, Tryz.ntmps121
  go_wp2_with (go_at_call 124; (with_reducible refine (hC.out _).mono ?_); rintro e w1 ⟨rfl, hb1⟩; obtain ⟨hc1, hf1⟩ := bcell hb1)
  have hbw : Below w.heap.size w w1 := below_call hb1 (by go_grown)
  refine bodyPost_ret (v := vv n (x ^^^ y)) (by simp [results, Tryz.results121, go_sem, hc1]) rfl ⟨rfl, ?_⟩
  clear hb1 hc1 hf1
  go_grown

set_option maxHeartbeats 400000 in
theorem Bin_0 (n x y : Nat) (w : World) (h0 : 1 ≤ n) (hn : n ≤ 128) :
    Calls Tryz.prog 112 #[.int .i64 0, vv n x, vv n y] w (RV w (.tuple #[vv n ((x + y) % 2 ^ n), .int .i64 0])) := by
  have hC := fun w => arith_0 n x y w hn
  replace hC := Lib.hid hC
  go_enter Tryz.func112, Tryz.ntmps112
  go_wp2_with (go_at_call 120; (with_reducible refine (hC.out _).mono ?_); rintro e w1 ⟨rfl, hb1⟩; obtain ⟨hc1, hf1⟩ := bcell hb1)
  have hbw : Below w.heap.size w w1 := below_call hb1 (by go_grown)
  refine bodyPost_ret (v := .tuple #[vv n ((x + y) % 2 ^ n), .int .i64 0]) (by simp [results, Tryz.results112, go_sem, hc1]) rfl ⟨rfl, ?_⟩
  clear hb1 hc1 hf1
  go_grown

set_option maxHeartbeats 400000 in
theorem Bin_1 (n x y : Nat) (w : World) (h0 : 1 ≤ n) (hn : n ≤ 128) (hy : y < 2 ^ n) :
    Calls Tryz.prog 112 #[.int .i64 1, vv n x, vv n y] w (RV w (.tuple #[vv n ((x + 2 ^ n - y) % 2 ^ n), .int .i64 0])) := by
  have hC := fun w => arith_1 n x y w hn hy
  replace hC := Lib.hid hC
  go_enter Tryz.func112, Tryz.ntmps112
  go_wp2_with (go_at_call 120; (with_reducible refine (hC.out _).mono ?_); rintro e w1 ⟨rfl, hb1⟩; obtain ⟨hc1, hf1⟩ := bcell hb1)
  have hbw : Below w.heap.size w w1 := below_call hb1 (by go_grown)
  refine bodyPost_ret (v := .tuple #[vv n ((x + 2 ^ n - y) % 2 ^ n), .int .i64 0]) (by simp [results, Tryz.results112, go_sem, hc1]) rfl ⟨rfl, ?_⟩
  clear hb1 hc1 hf1
  go_grown

set_option maxHeartbeats 400000 in
theorem Bin_2 (n x y : Nat) (w : World) (h0 : 1 ≤ n) (hn : n ≤ 128) :
    Calls Tryz.prog 112 #[.int .i64 2, vv n x, vv n y] w (RV w (.tuple #[vv n (x * y % 2 ^ n), .int .i64 0])) := by
  have hC := fun w => arith_2 n x y w hn
  replace hC := Lib.hid hC
  go_enter Tryz.func112, Tryz.ntmps112
  go_wp2_with (go_at_call 120; (with_reducible refine (hC.out _).mono ?_); rintro e w1 ⟨rfl, hb1⟩; obtain ⟨hc1, hf1⟩ := bcell hb1)
  have hbw : Below w.heap.size w w1 := below_call hb1 (by go_grown)
  refine bodyPost_ret (v := .tuple #[vv n (x * y % 2 ^ n), .int .i64 0]) (by simp [results, Tryz.results112, go_sem, hc1]) rfl ⟨rfl, ?_⟩
  clear hb1 hc1 hf1
  go_grown

set_option maxHeartbeats 400000 in
theorem Bin_7 (n x y : Nat) (w : World) (h0 : 1 ≤ n) (hn : n ≤ 128) (hx : x < 2 ^ n) (hy : y < 2 ^ n) :
    Calls Tryz.prog 112 #[.int .i64 7, vv n x, vv n y] w (RV w (.tuple #[vv n (x &&& y), .int .i64 0])) := by
  have hC := fun w => logic_7 n x y w hn hx hy
  replace hC := Lib.hid hC
  go_enter Tryz.func112, Tryz.ntmps112
  go_wp2_with (go_at_call 121; (with_reducible refine (hC.out _).mono ?_); rintro e w1 ⟨rfl, hb1⟩; obtain ⟨hc1, hf1⟩ := bcell hb1)
  have hbw : Below w.heap.size w w1 := below_call hb1 (by go_grown)
  refine bodyPost_ret (v := .tuple #[vv n (x &&& y), .int .i64 0]) (by simp [results, Tryz.results112, go_sem, hc1]) rfl ⟨rfl, ?_⟩
  clear hb1 hc1 hf1
  go_grown

set_option maxHeartbeats 400000 in
theorem Bin_8 (n x y : Nat) (w : World) (h0 : 1 ≤ n) (hn : n ≤ 128) (hx : x < 2 ^ n) (hy : y < 2 ^ n) :
    Calls Tryz.prog 112 #[.int .i64 8, vv n x, vv n y] w (RV w (.tuple #[vv n (x ||| y), .int .i64 0])) := by
  have hC := fun w => logic_8 n x y w hn hx hy
  replace hC := Lib.hid hC
  go_enter Tryz.func112, Tryz.ntmps112
  go_wp2_with (go_at_call 121; (with_reducible refine (hC.out _).mono ?_); rintro e w1 ⟨rfl, hb1⟩; obtain ⟨hc1, hf1⟩ := bcell hb1)
  have hbw : Below w.heap.size w w1 := below_call hb1 (by go_grown)
  refine bodyPost_ret (v := .tuple #[vv n (x ||| y), .int .i64 0]) (by simp [results, Tryz.results112, go_sem, hc1]) rfl ⟨rfl, ?_⟩
  clear hb1 hc1 hf1
  go_grown

set_option maxHeartbeats 400000 in
theorem Bin_9 (n x y : Nat) (w : World) (h0 : 1 ≤ n) (hn : n ≤ 128) (hx : x < 2 ^ n) (hy : y < 2 ^ n) :
    Calls Tryz.prog 112 #[.int .i64 9, vv n x, vv n y] w (RV w (.tuple #[vv n (x ^^^ y), .int .i64 0])) := by
  have hC := fun w => logic_9 n x y w hn hx hy
  replace hC := Lib.hid hC
  go_enter Tryz.func112, Tryz.ntmps112
  go_wp2_with (go_at_call 121; (with_reducible refine (hC.out _).mono ?_); rintro e w1 ⟨rfl, hb1⟩; obtain ⟨hc1, hf1⟩ := bcell hb1)
  have hbw : Below w.heap.size w w1 := below_call hb1 (by go_grown)
  refine bodyPost_ret (v := .tuple #[vv n (x ^^^ y), .int .i64 0]) (by simp [results, Tryz.results112, go_sem, hc1]) rfl ⟨rfl, ?_⟩
  clear hb1 hc1 hf1
  go_grown

end Go.Proofs.YtdjaikglkgabdaaGreatDoor
