/-
  The walks of math/bits.Mul64 and of bv's sum, difference, negate, product.
  The walks of bv's difference, negate, product, shiftUp, shiftDown.
-/
import Derived.Test.YtdjaikglkgabdaaGreatDoorWd
import Derived.Test.YtdjaikglkgabdaaGreatDoorM
import Derived.Deep.RegionWith
namespace Go.Proofs.YtdjaikglkgabdaaGreatDoor
open Go.RowKit
theorem size_le {W w1 : World} (hb : Below W.heap.size W w1) (n : Nat) (h : n ≤ W.heap.size) : n ≤ w1.heap.size := Nat.le_trans h hb.size
set_option maxHeartbeats 800000 in
theorem mul64_t (x y : Nat) (w : World) (hx : x < 2 ^ 64) (hy : y < 2 ^ 64) : Calls Tryz.prog 141 #[.int .u64 (x : Int), .int .u64 (y : Int)] w fun e w' => e = .returned (.tuple #[.int .u64 ((mulHi x y : Nat) : Int), .int .u64 ((mulLo x y : Nat) : Int)]) ∧ w' = w := by
  have hh := Lib.hid (mul64_form x y hx hy)
  have hl := Lib.hid (mulLo_form x y)
  clear hx hy
  go_enter Tryz.func141, Tryz.ntmps141
  go_wp2
  go_ret2
  exact ⟨by rw [← hh.out, ← hl.out]; rfl, rfl⟩

theorem call_add (x y c : Nat) (hc : c ≤ 1) (w : World) : (callFunc 140 #[.int .u64 (x : Int), .int .u64 (y : Int), .int .u64 (c : Int)]).run Tryz.prog w = .ok (.value (.tuple #[.int .u64 ((sumLo x y c : Nat) : Int), .int .u64 ((carryN x y c : Nat) : Int)])) w := by
  rw [run_callFunc_extern Tryz.func140 (by kernel_rfl) (by kernel_rfl) (by kernel_rfl) (e := add64Entry) (by kernel_rfl), run_add64 x y c (by omega) (by omega) (by omega) (by omega)]
  simp only [Result.andThen, sumLo, carryN]
  congr 5

set_option maxRecDepth 100000 in
set_option maxHeartbeats 1000000 in
theorem sum_w (n m : Nat) (x0 x1 y0 y1 c : Nat) (w : World) (hn : n ≤ 128) (hx0 : x0 < 2 ^ 64) (hy0 : y0 < 2 ^ 64) (hc : c ≤ 1) :
    Calls Tryz.prog 128 #[.agg #[.int .i64 (n : Int), .int .u64 (x0 : Int), .int .u64 (x1 : Int)], .agg #[.int .i64 (m : Int), .int .u64 (y0 : Int), .int .u64 (y1 : Int)], .int .u64 (c : Int)] w (RV w (vv n (trimN n (sumLo x0 y0 c) (sumLo x1 y1 (carryN x0 y0 c))))) := by
  have h1 := call_add x0 y0 c hc
  have h2 := call_add x1 y1 (carryN x0 y0 c) (carryN_le x0 y0 c hx0 hy0 hc)
  clear hx0 hy0 hc
  go_enter Tryz.func128, Tryz.ntmps128
  go_wp2
  refine wp_loop_rounds 3 ?_
  rw [rounds_succ]
  go_wp2
  go_region_with (fail)
  all_goals
    go_wp2
    rw [rounds_succ]
    go_wp2
    go_region_with (fail)
  all_goals
    go_wp2
    rw [rounds_succ]
    go_wp2_with (go_at_call 111; refine (trimmed_w n _ _ _ hn (sumLo_lt _ _ _) (sumLo_lt _ _ _)).mono ?_; rintro e w1 ⟨rfl, hb1⟩; obtain ⟨hc1, hf1⟩ := bcell hb1)
    have hbw : Below w.heap.size w w1 := below_call hb1 (by go_grown)
    refine bodyPost_ret (v := vv n (trimN n (sumLo x0 y0 c) (sumLo x1 y1 (carryN x0 y0 c)))) (by simp [results, Tryz.results128, go_sem, hc1]) rfl ⟨rfl, ?_⟩
    clear hb1 hc1 hf1
    go_grown
theorem sum_v (n x y c : Nat) (w : World) (hn : n ≤ 128) (hc : c ≤ 1) :
    Calls Tryz.prog 128 #[vv n x, vv n y, .int .u64 (c : Int)] w (RV w (vv n ((x + y + c) % 2 ^ n))) := by
  have h := sum_w n n (lo x) (hi x) (lo y) (hi y) c w hn (lo_lt _) (lo_lt _) hc
  rw [sum_eq n x y c hn] at h
  exact h

theorem less3 {n : Nat} {m : Nat} (h : n + 3 ≤ m) : n < m ∧ n + 1 < m ∧ n + 1 + 1 < m := by omega
theorem less4 {n : Nat} {m : Nat} (h : n + 4 ≤ m) : n < m ∧ n + 1 < m ∧ n + 1 + 1 < m ∧ n + 1 + 1 + 1 < m := by omega
theorem less2 {n : Nat} {m : Nat} (h : n + 2 ≤ m) : n < m ∧ n + 1 < m := by omega
end Go.Proofs.YtdjaikglkgabdaaGreatDoor
namespace Go.Proofs.YtdjaikglkgabdaaGreatDoor
open Go.RowKit
set_option maxHeartbeats 1000000 in
theorem difference_v (n x y : Nat) (w : World) (hn : n ≤ 128) (hy : y < 2 ^ n) :
    Calls Tryz.prog 126 #[vv n x, vv n y] w (RV w (vv n ((x + 2 ^ n - y) % 2 ^ n))) := by
  have hi := Lib.hid (fun w => invert_v n y w hn hy)
  have hs := fun w => sum_v n x (2 ^ n - 1 - y) 1 w hn (by decide)
  rw [diff_eq n x y hy] at hs
  have hs := Lib.hid hs
  clear hy
  go_enter Tryz.func126, Tryz.ntmps126
  go_wp2
  go_region_with (first | (go_at_call 113; refine (hi.out _).mono ?_; rintro e w1 ⟨rfl, hb1⟩; obtain ⟨hc1, hf1⟩ := bcell hb1; have hz1 := less3 (size_le hb1 (w.heap.size + 3) (by go_size))) | (go_at_call 128; refine (hs.out _).mono ?_; rintro e w2 ⟨rfl, hb2⟩; obtain ⟨hc2, hf2⟩ := bcell hb2))
  all_goals
    go_wp2
    have hbw1 : Below w.heap.size w w1 := below_call hb1 (by go_grown)
    have hbw : Below w.heap.size w w2 := below_call hb2 (by go_grown)
    refine bodyPost_ret (v := vv n ((x + 2 ^ n - y) % 2 ^ n)) (by simp [results, Tryz.results126, go_sem, hc1, hc2, hz1]) rfl ⟨rfl, ?_⟩
    clear hb1 hc1 hf1 hb2 hc2 hf2
    go_grown
set_option maxHeartbeats 1000000 in
theorem negate_v (n y : Nat) (w : World) (hn : n ≤ 128) (hy : y < 2 ^ n) :
    Calls Tryz.prog 114 #[vv n y] w (RV w (vv n ((0 + 2 ^ n - y) % 2 ^ n))) := by
  have hd := Lib.hid (fun w => difference_v n 0 y w hn hy)
  clear hy
  go_enter Tryz.func114, Tryz.ntmps114
  go_wp2_with (go_at_call 126; refine (hd.out _).mono ?_; rintro e w1 ⟨rfl, hb1⟩; obtain ⟨hc1, hf1⟩ := bcell hb1)
  have hbw : Below w.heap.size w w1 := below_call hb1 (by go_grown)
  refine bodyPost_ret (v := vv n ((0 + 2 ^ n - y) % 2 ^ n)) (by simp [results, Tryz.results114, go_sem, hc1]) rfl ⟨rfl, ?_⟩
  clear hb1 hc1 hf1
  go_grown
set_option maxHeartbeats 1000000 in
theorem product_v (n x y : Nat) (w : World) (hn : n ≤ 128) :
    Calls Tryz.prog 129 #[vv n x, vv n y] w (RV w (vv n (x * y % 2 ^ n))) := by
  have hp := prod_eq n x y hn
  have hm := Lib.hid (fun w => mul64_t (lo x) (lo y) w (lo_lt _) (lo_lt _))
  have ht := fun w => trimmed_w n (mulLo (lo x) (lo y)) (prodHi (lo x) (hi x) (lo y) (hi y)) w hn (Nat.mod_lt _ (by decide)) (Nat.mod_lt _ (by decide))
  rw [hp, ← prodHi_form] at ht
  have ht := Lib.hid ht
  clear hp
  go_enter Tryz.func129, Tryz.ntmps129
  go_wp2_with (first | (go_at_call 141; refine (hm.out _).mono ?_; rintro e w0 ⟨rfl, rfl⟩) | (go_at_call 111; refine (ht.out _).mono ?_; rintro e w1 ⟨rfl, hb1⟩; obtain ⟨hc1, hf1⟩ := bcell hb1))
  have hbw : Below w.heap.size w w1 := below_call hb1 (by go_grown)
  refine bodyPost_ret (v := vv n (x * y % 2 ^ n)) (by simp [results, Tryz.results129, go_sem, hc1]) rfl ⟨rfl, ?_⟩
  clear hb1 hc1 hf1
  go_grown
end Go.Proofs.YtdjaikglkgabdaaGreatDoor
