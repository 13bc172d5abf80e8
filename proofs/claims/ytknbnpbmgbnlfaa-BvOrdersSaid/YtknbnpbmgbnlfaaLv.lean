/-
  The walk of the statement BvNumbers, at every width and every two words.
-/
import Derived.Test.YtknbnpbmgbnlfaaLu
namespace Go.Proofs.Ytknbnpbmgbnlfaa
open Go.RowKit
theorem bit_of (b : Bool) (w : World) : Calls Try.prog 39 #[vv 1 b.toNat, .int .i64 0] w (RV w (.bool b)) := by
  have h := Bit_v 1 b.toNat 0 w (by decide) (by cases b <;> decide)
  have e : bitI 1 b.toNat 0 = b := by cases b <;> rfl
  rw [e] at h
  exact h
theorem num_small (n z : Nat) (hz : z < 2 ^ 40) (w : World) : Calls Try.prog 20 #[vv n z, .int .i64 1099511627776] w (RV w (.int .i64 (z : Int))) := by
  have h := Num_v n z 1099511627776 w (by decide)
  rw [Nat.min_eq_left (by omega)] at h
  exact h
theorem Numbers_all (width : Int) (A0 B0 : Nat) (w : World) : Calls Try.prog 7 #[.int .i64 width, .int .u64 (A0 : Int), .int .u64 (B0 : Int)] w (RV w (.bool true)) := by
  obtain ⟨n, h1, hn, hm⟩ : ∃ n : Nat, 1 ≤ n ∧ n ≤ 31 ∧ ∃ m : Int, (if (31 : Int) < width then 31 else width) = m ∧ (if 1 < m then m else 1) = (n : Int) := by
    refine ⟨(if 1 < (if (31 : Int) < width then 31 else width) then (if (31 : Int) < width then 31 else width) else 1).toNat, ?_, ?_, _, rfl, ?_⟩
    · split <;> omega
    · split <;> (try split) <;> omega
    · split <;> omega
  have hP := wrap_pow n (by omega)
  have hP0 : 0 < 2 ^ n := Nat.pow_pos (by decide)
  have hP1 : 2 ^ n ≤ 2147483648 := Nat.le_trans (Nat.pow_le_pow_right (by decide) hn) (by decide)
  have hx : A0 % 2 ^ n < 2 ^ n := Nat.mod_lt _ hP0
  have hy : B0 % 2 ^ n < 2 ^ n := Nat.mod_lt _ hP0
  have hNx := fun (w : World) (g : Nat) (hg : g = w.heap.size) => New_one n (A0 % 2 ^ n) w g hg h1 (by omega) (by omega)
  have hNy := fun (w : World) (g : Nat) (hg : g = w.heap.size) => New_one n (B0 % 2 ^ n) w g hg h1 (by omega) (by omega)
  rw [Nat.mod_eq_of_lt hx] at hNx
  rw [Nat.mod_eq_of_lt hy] at hNy
  generalize hX : A0 % 2 ^ n = x at *
  generalize hY : B0 % 2 ^ n = y at *
  have hxy : x * y < 2 ^ 64 := Nat.lt_of_le_of_lt (Nat.mul_le_mul (show x ≤ 2147483648 by omega) (show y ≤ 2147483648 by omega)) (by decide)
  have l0 : (x + y) % 2 ^ n < 2 ^ n := Nat.mod_lt _ hP0
  have l1 : (x + 2 ^ n - y) % 2 ^ n < 2 ^ n := Nat.mod_lt _ hP0
  have l2 : x * y % 2 ^ n < 2 ^ n := Nat.mod_lt _ hP0
  have hD := fun w => divide_v n x y w (by omega) hx hy
  have hqU := qU_lt n x y hx
  have hrU := rU_lt n x y hx
  refine Num_t n (2 ^ n) A0 B0 x y ((x + y) % 2 ^ n) ((x + 2 ^ n - y) % 2 ^ n) (x * y % 2 ^ n) (x + y) (x + 2 ^ n) (x + 2 ^ n - y) (x * y) width (qU n x y) (rU x y) (decide (x < y)) (eqB n x n y) w h1 hn hm hP hP0 hP1 hX hY hx hy
    ?_ ?_ ?_ ?_ rfl rfl rfl ?_ ?_ ?_ ?_ ?_ ?_ hNx hNy (fun w => Bin_0 n x y w h1 (by omega)) (fun w => Bin_1 n x y w h1 (by omega) hy) (fun w => Bin_2 n x y w h1 (by omega))
    (fun w => Bin_3 n x y _ _ w h1 hD) (fun w => Bin_4 n x y _ _ w h1 hD) (fun w => Bin_15 n x y w h1) (fun w => Bin_13 n x y w h1)
    (num_small n _ (by omega)) (num_small n _ (by omega)) (num_small n _ (by omega)) (fun _ => num_small n _ (by omega)) (fun _ => num_small n _ (by omega)) (bit_of _) (bit_of _)
  · rw [IntKind.wrap_u64]; omega
  · rw [IntKind.wrap_u64]; omega
  · rw [IntKind.wrap_u64]; omega
  · rw [IntKind.wrap_u64, show (x : Int) * (y : Int) = ((x * y : Nat) : Int) by simp]
    generalize x * y = t at *
    omega
  · exact IntWalk.i64_in _ (by omega)
  · exact IntWalk.i64_in _ (by omega)
  · exact IntWalk.i64_in _ (by omega)
  · intro h
    unfold qU rU
    rw [if_neg (by omega), if_neg (by omega)]
    exact ⟨rfl, rfl⟩
  · exact decide_eq_decide.2 (by omega)
  · rw [beq_cast, eqB]; simp
end Go.Proofs.Ytknbnpbmgbnlfaa
